/- The program makes derivations of what was read. The program counts the nodes of derivations, and reads them. The program tells plain derivations. The program lists the types of the ax of a derivation. -/
import Derived.Test.YtnnnphammfeemaaGreatJ1
import Derived.Test.YtnnnphammfeemaaGreatPG
import Derived.Test.YtnnnphammfeemaaGreatPC
import Derived.Test.YtnnnphammfeemaaGreatRK
import Derived.Test.YtnnnphammfeemaaGreatJ3
import Derived.Test.YtnnnphammfeemaaGreatRO
namespace Go.Proofs.YtnnnphammfeemaaGreat
set_option linter.unusedVariables false
set_option linter.unusedSimpArgs false
open Go.RowKit

/-- What making a derivation answers. -/
def DoPost (k : Bool) (t : Tr) (w : World) (e : Ending) (w' : World) : Prop :=
  Below w.heap.size w w' ∧ ((isDv k t = true ∧ ∃ u, e = .returned (.tuple #[u, .bool true]) ∧ DnAt w' (fun b => w.heap.size ≤ b ∧ b < w'.heap.size) t u) ∨ (isDv k t = false ∧ e = .returned (.tuple #[.nilIface, .bool false])))
def DoSaid (k : Bool) (t : Tr) : Prop := ∀ (v : Value) (w : World) (P : Nat → Prop), PAt w P t v → (∀ b, P b → b < w.heap.size) → Wf t → (wrTr t).length ≤ 8000 → trAtoms t ≤ 10000 →
  Calls Tryz.prog 75 #[v, .string ⟨(kindT k).toArray⟩] w (DoPost k t w)
/-- What making an ax answers. -/
def AxPost (r : List Tr) (w : World) (e : Ending) (w' : World) : Prop :=
  Below w.heap.size w w' ∧ ((axL r = true ∧ ∃ u t, r = [t] ∧ u < w'.heap.size ∧ w.heap.size ≤ u ∧ e = .returned (.tuple #[.iface 74 (.pointer (some ⟨u, 0, none⟩)), .bool true]) ∧ (wrTr t).length ≤ 8000 ∧ Blk w' u 78 #[.string ⟨(wrTr t).toArray⟩]) ∨
    (axL r = false ∧ e = .returned (.tuple #[.nilIface, .bool false])))

set_option maxRecDepth 100000 in
theorem axOf_no (p : Tr) (r : List Tr) (hr : r.length ≠ 1) (v : Value) (w : World) (P : Nat → Prop) (ht : PAt w P (.mk [] (p :: r)) v) (hP : ∀ b, P b → b < w.heap.size) :
    Calls Tryz.prog 107 #[v] w (AxPost r w) := by
  obtain ⟨b, vp, rfl, hPb, k0, k1, hle, hle2, hv⟩ := ht.form
  rcases hv with ⟨h0, _⟩ | ⟨_, g, cap, xs, rfl, hcap, hPg, hc, hq⟩
  · cases h0
  have HX : Hid (axL r = false) := Lib.hid (by
    match r, hr with
    | [], _ => rfl
    | [t], h => simp at h
    | _ :: _ :: _, _ => rfl)
  have hlen : (((p :: r).length : Int) != 2) = true := bne_iff_ne.2 (by simp; omega)
  have hpos : 0 < (p :: r).length := by simp
  generalize (p :: r).length = N at hlen hpos hcap hle2 k1
  clear ht hP hc hq hr
  go_enter Tryz.func107, Tryz.ntmps107
  go_wp2_with fail
  go_ret2
  exact ⟨Below.refl _ _, .inr ⟨HX.out, rfl⟩⟩

set_option maxRecDepth 100000 in
theorem axOf_one (p u : Tr) (v : Value) (w : World) (P : Nat → Prop) (ht : PAt w P (.mk [] [p, u]) v) (hP : ∀ b, P b → b < w.heap.size) (hw : Wf u) (hl : (wrTr u).length ≤ 8000) (ha : trAtoms u ≤ 10000) :
    Calls Tryz.prog 107 #[v] w (AxPost [u] w) := by
  obtain ⟨b, vp, rfl, hPb, k0, k1, hle, hle2, hv⟩ := ht.form
  rcases hv with ⟨h0, _⟩ | ⟨_, g, cap, xs, rfl, hcap, hPg, hc, hq⟩
  · cases h0
  obtain ⟨x1, e1, q1⟩ := hq.at_ 1 u rfl
  obtain ⟨bu, rfl, hbu⟩ := q1.shape
  have c1 := hc _ _ e1
  have CA := Lib.hid (countAtoms_any u _ w P q1 ha)
  have CT := Lib.hid ((tf_bf_any u).1 _ w P q1 hP hw hl)
  have HX : Hid (axL [u] = (isTy u && decide (trAtoms u ≤ 200))) := Lib.hid rfl
  obtain ⟨m, hm⟩ : ∃ m, trAtoms u = m := ⟨_, rfl⟩
  rw [hm] at CA HX ha
  have hcap' : 2 ≤ cap := by simpa using hcap
  simp only [List.length_cons, List.length_nil] at k1
  clear ht hP hc hq hm q1 e1 hcap hle2
  by_cases hgt : m ≤ 200
  · have hb : decide ((200 : Int) < (m : Int)) = false := decide_eq_false (by omega)
    go_enter Tryz.func107, Tryz.ntmps107
    go_wp2_with fail
    refine CA.out.mono ?_
    rintro e w1 ⟨rfl, rfl⟩
    go_wp2_with fail
    refine CT.out.mono ?_
    rintro e w2 ⟨hb2, ⟨hty, rfl⟩ | ⟨hty, rfl⟩⟩
    · have HB2 := Lib.hid hb2
      have hz2 := hb2.size
      have HT := Lib.hid hty
      clear hb2 hty
      go_wp2_with fail
      go_ret2
      exact ⟨HB2.out.alloc hz2 _, .inl ⟨by rw [HX.out, HT.out, decide_eq_true hgt]; rfl, w2.heap.size, u, rfl, by simp, hz2, rfl, hl, Blk.new _ _ _⟩⟩
    · have HB2 := Lib.hid hb2
      have HT := Lib.hid hty
      clear hb2 hty
      go_wp2_with fail
      go_ret2
      exact ⟨HB2.out, .inr ⟨by rw [HX.out, HT.out]; rfl, rfl⟩⟩
  · have hb : decide ((200 : Int) < (m : Int)) = true := decide_eq_true (by omega)
    have HF : Hid (decide (m ≤ 200) = false) := Lib.hid (decide_eq_false hgt)
    clear CT
    go_enter Tryz.func107, Tryz.ntmps107
    go_wp2_with fail
    refine CA.out.mono ?_
    rintro e w1 ⟨rfl, rfl⟩
    go_wp2_with fail
    go_ret2
    exact ⟨Below.refl _ _, .inr ⟨by rw [HX.out, HF.out]; simp, rfl⟩⟩
theorem axOf_any (p : Tr) (r : List Tr) (v : Value) (w : World) (P : Nat → Prop) (ht : PAt w P (.mk [] (p :: r)) v) (hP : ∀ b, P b → b < w.heap.size) (hw : ∀ u ∈ r, Wf u) (hl : ∀ u ∈ r, (wrTr u).length ≤ 8000) (ha : ∀ u ∈ r, trAtoms u ≤ 10000) :
    Calls Tryz.prog 107 #[v] w (AxPost r w) := by
  by_cases hr : r.length = 1
  · match r, hr with
    | [u], _ => exact axOf_one p u v w P ht hP (hw u (by simp)) (hl u (by simp)) (ha u (by simp))
  · exact axOf_no p r hr v w P ht hP
theorem Tryz.infoDn : (Tryz.prog.info? 68).map (fun i => (i.zero, i.size, i.bytes)) = some (some .nilIface, 1, 16) := by kernel_rfl
theorem isDvs_next' (k : Bool) (r : List Tr) (j : Nat) (t : Tr) (h : r[j]? = some t) : isDvs k (r.drop j) = (isDv k t && isDvs k (r.drop (j + 1))) := by
  obtain ⟨hj, e⟩ := List.getElem?_eq_some_iff.1 h
  rw [List.drop_eq_getElem_cons hj, e]
  rfl
theorem dv_take_next (r : List Tr) (k : Nat) (t : Tr) (h : r[k]? = some t) : r.take (k + 1) = r.take k ++ [t] := by
  rw [List.take_add_one, h]; rfl
/-- What the walk over the derivations of a node knows of them. -/
structure DoIn (w : World) (P : Nat → Prop) (g N : Nat) (r : List Tr) (xs : List Value) : Prop where
  cells : ∀ j u, xs[j]? = some u → w.cell? ⟨g, j + 1, none⟩ = some u
  trees : QAt w P r xs
  wf : ∀ t ∈ r, Wf t
  short : ∀ t ∈ r, (wrTr t).length ≤ 8000
  few : ∀ t ∈ r, trAtoms t ≤ 10000
  len : r.length = N
/-- The derivations that were made, in memory. -/
structure DoRun (w : World) (r : List Tr) (j : Nat) (vp : Value) (xs : List Value) (wr : World) : Prop where
  own : wr.ownsRow w.heap.size 68 1 vp j xs
  trees : DnS wr (fun b => w.heap.size ≤ b ∧ b < wr.heap.size ∧ some b ≠ vp.ownBlock) (r.take j) xs
  below : Below w.heap.size w wr
theorem DoRun.more {w wr w2 : World} {r : List Tr} {j : Nat} {vp : Value} {xs : List Value} (h : DoRun w r j vp xs wr) (hb : Below wr.heap.size wr w2) : DoRun w r j vp xs w2 where
  own := h.own.kept (grown_of_below hb none) (by cases hv : vp.ownBlock <;> simp)
  trees := h.trees.mono fun b ⟨h1, h2, h3⟩ => ⟨⟨h1, by have := hb.size; omega, h3⟩, hb.block b h2⟩
  below := h.below.trans (hb.mono h.below.size)
theorem DoRun.step {w wr w1 w2 : World} {r : List Tr} {j : Nat} {vp v2 : Value} {xs : List Value} {t : Tr} {u : Value} {o1 : Obj} (h : DoRun w r j vp xs wr) (hb : Below wr.heap.size wr w1) (ht : DnAt w1 (fun b => wr.heap.size ≤ b ∧ b < w1.heap.size) t u) (hj : r[j]? = some t)
    (hown : w2.ownsRow w.heap.size 68 1 v2 (j + 1) (xs ++ [u])) (hg : (w1.alloc o1).grownBy w2 vp.ownBlock) (hat : v2.ownBlock = vp.ownBlock ∨ v2.ownBlock = some (w1.alloc o1).heap.size) : DoRun w r (j + 1) v2 (xs ++ [u]) w2 := by
  have h1 := h.more hb
  have hlt := h.own.lt
  have hz1 := hb.size
  have hz2 := hg.size
  have hz0 := h.below.size
  simp only [World.size_alloc] at hz2 hat
  have hblk : ∀ b, b < w1.heap.size → some b ≠ vp.ownBlock → w2.heap[b]? = w1.heap[b]? := fun b h1 h2 => (hg.block b (by simp; omega) h2).trans (Below.heap_alloc _ _ _ h1)
  have hne : ∀ b, b < w1.heap.size → some b ≠ vp.ownBlock → some b ≠ v2.ownBlock := fun b h1 h2 => by
    rcases hat with h | h
    · rw [h]; exact h2
    · rw [h]; intro e; injection e with e; omega
  refine ⟨hown, ?_, ?_⟩
  · rw [dv_take_next r j t hj]
    refine (h.trees.mono fun b ⟨q1, q2, q3⟩ => ⟨⟨q1, by omega, hne b (by omega) q3⟩, (hblk b (by omega) q3).trans (hb.block b q2)⟩).snoc (ht.mono fun b ⟨q1, q2⟩ => ?_)
    have hn : some b ≠ vp.ownBlock := fun e => by have := hlt b e.symm; omega
    exact ⟨⟨by omega, by omega, hne b q2 hn⟩, hblk b q2 hn⟩
  · exact ((h.below.trans (hb.mono hz0)).alloc (by omega) o1).grown hg (by simp; omega) (fun q e => (hlt q e).1)

set_option maxRecDepth 100000 in
set_option maxHeartbeats 2000000 in
theorem derivationOf_node (k : Bool) (pa : List UInt8) (pq r : List Tr) (hpa : pa ≠ sAx) (hr : r ≠ []) (ih : ∀ u ∈ r, DoSaid k u) : DoSaid k (.mk [] (.mk pa pq :: r)) := by
  intro v w P ht hP hw hl ha
  obtain ⟨b, vp, rfl, hPb, k0, k1, hle, hle2, hv⟩ := ht.form
  rcases hv with ⟨h0, _⟩ | ⟨_, g, cap, xs, rfl, hcap, hPg, hc, hq⟩
  · cases h0
  obtain ⟨x0, e0, q0⟩ := hq.at_ 0 _ rfl
  obtain ⟨b0, rfl, hb0⟩ := q0.shape
  obtain ⟨b0', _, e, _, hk0, _, hpl, _⟩ := q0.form
  obtain rfl : b0 = b0' := by simpa using e
  have c0 := hc _ _ e0
  obtain ⟨hne, hws⟩ := wf_list _ hw
  have hxs : ∃ xs', xs = .pointer (some ⟨b0, 0, none⟩) :: xs' ∧ QAt w P r xs' := by
    unfold QAt at hq
    obtain ⟨x, r', rfl, hx, hr⟩ := hq
    simp at e0
    subst e0
    exact ⟨r', rfl, hr⟩
  obtain ⟨xs', rfl, hqr⟩ := hxs
  obtain ⟨N, hN⟩ : ∃ N, r.length = N := ⟨_, rfl⟩
  have hNp : 0 < N := by rw [← hN]; exact List.length_pos_iff.2 hr
  have HIN : Hid (DoIn w P g N r xs') := Lib.hid ⟨fun j u hu => hc (j + 1) u (by simpa using hu), hqr, fun t ht => Wfs_mem t _ (List.mem_cons_of_mem _ ht) hws, fun t ht => by have := wrTr_part t (.mk pa pq :: r) (List.mem_cons_of_mem _ ht); omega, fun t ht => by have := trsAtoms_mem t (.mk pa pq :: r) (List.mem_cons_of_mem _ ht); have e : trAtoms (.mk [] (.mk pa pq :: r)) = trsAtoms (.mk pa pq :: r) := (by simp [trAtoms]); omega, hN⟩
  have hlen : (Tr.mk pa pq :: r).length = N + 1 := by simp [hN]
  rw [hlen] at hle2 hcap k1
  have HD : Hid (isDv k (.mk [] (.mk pa pq :: r)) = (ndOk k pa N && isDvs k r)) := Lib.hid (by
    rw [← hN]
    unfold isDv isDvP
    rw [if_pos rfl, if_neg (show ¬ (Tr.mk pa pq).atom = sAx from hpa)]; rfl)
  have hgl := hP g hPg
  have hbl := hP b hPb
  have hb0l := hP b0 hb0
  have HP := Lib.hid hP
  have IH := Lib.hid ih
  have hxb : (pa == [97, 120]) = false := beq_eq_false_iff_ne.2 hpa
  have HPA := Lib.hid hpa
  obtain ⟨i0, hinf, hz0', hzs, hzb'⟩ := info_parts Tryz.infoDn
  have hlt2 : decide (((N : Nat) : Int) + 1 < 2) = false := decide_eq_false (by omega)
  have hc2 : 1 < cap := by omega
  have hN8 : N ≤ 8000 := by omega
  have HNS := Lib.hid (fun (w : World) (g cap : Nat) (xs : List Value) (h : NoIn w g cap N xs) => nodeOf_any k pa hpl xs N g cap w h)
  clear ht hP ih hc hq hqr e e0 q0 hne hws hw hl ha hlen hN hpa hr
  go_enter Tryz.func75, Tryz.ntmps75
  go_wp2_with fail
  go_loopw [7, 39] (fun lv i wr => ∃ (j : Nat) (ys : List Value), j ≤ N ∧ i = .int .i64 j ∧ Hid (isDvs k r = isDvs k (r.drop j)) ∧ Hid (DoRun w r j lv ys wr)) (fun _ i _ => N - (intOf i).toNat)
  case atStart => exact ⟨0, [], by omega, rfl, Lib.hid rfl, Lib.hid ⟨World.ownsRow_nil _ _ _ _, by rw [List.take_zero]; exact DnS.nil, Below.refl _ _⟩⟩
  case round =>
    obtain ⟨j, ys, hj, rfl, HS, HM⟩ := hrel
    obtain ⟨A0, n0, rfl⟩ := own_shape HM.out.own
    have hzw := HM.out.below.size
    by_cases hjN : j < N
    · obtain ⟨t, ht⟩ : ∃ t, r[j]? = some t := ⟨r[j]'(by have := HIN.out.len; omega), by simp⟩
      obtain ⟨x, hx, hxp⟩ := HIN.out.trees.at_ j t ht
      obtain ⟨bt, rfl, hbt⟩ := hxp.shape
      have q0 := (HM.out.below.cell (p := ⟨g, j + 1, none⟩) hgl).trans (HIN.out.cells _ _ hx)
      have htm := List.mem_of_getElem? ht
      have hadd : (⟨g, 1 + j, none⟩ : Addr) = ⟨g, j + 1, none⟩ := by rw [Nat.add_comm]
      have q1 : wr.cell? ⟨g, 1 + j, none⟩ = some (.pointer (some ⟨bt, 0, none⟩)) := by rw [hadd]; exact q0
      have C := Lib.hid (IH.out t htm _ wr P (hxp.below HM.out.below HP.out) (fun b hb => by have := HP.out b hb; omega) (HIN.out.wf t htm) (HIN.out.short t htm) (HIN.out.few t htm))
      have HT := Lib.hid ht
      have HN' := Lib.hid (isDvs_next' k r j t ht)
      clear ht hx hxp htm hadd q0
      go_wp2_with fail
      refine C.out.mono ?_
      rintro e w1 ⟨hb1, ⟨hdv, u, rfl, hu⟩ | ⟨hdv, rfl⟩⟩
      · obtain ⟨T, bu, rfl, _⟩ := hu.shape
        have HU := Lib.hid hu
        have HB1 := Lib.hid hb1
        have hz1 := hb1.size
        have own1 := (HM.out.more hb1).own
        have HDV := Lib.hid hdv
        clear hu hb1 hdv q1
        go_wp2_with (first
          | (at_builtin
             refine wpList_append_own_at _ rfl (.tmp 51) (.tmp 53) 168 rfl w.heap.size 68 i0 .nilIface 1 16 Tryz.underlying168 hinf hz0' hzs hzb' rfl (by decide) (.slice A0 j n0) j ys rfl (own1.alloc _) ⟨w1.heap.size, 0, none⟩ 1 1 [.iface T (.pointer (some ⟨bu, 0, none⟩))] rfl rfl (cell_one_new _ _ _) ?_ ?_ ?_ ?_ ?_
             · intro z hz
               simp at hz
               subst hz
               rfl
             · unfold maxLen; omega
             · omega
             · simp; omega
             intro v2 w2 hown2 hg2 _ hat2
             have HST := Lib.hid (HM.out.step HB1.out HU.out HT.out hown2 hg2 hat2)
             obtain ⟨A2, n2, rfl⟩ := own_shape hown2)
          | fail)
        go_roundw
        case rel => exact ⟨j + 1, _, by omega, by go_num, Lib.hid (by rw [HS.out, HN'.out, HDV.out]; rfl), HST⟩
        case measure => simp [intOf]; omega
      · have HDV := Lib.hid hdv
        have HB1 := Lib.hid hb1
        clear hdv hb1
        go_wp2_with fail
        go_ret2
        exact ⟨HM.out.below.trans (HB1.out.mono hzw), .inr ⟨by rw [HD.out, HS.out, HN'.out, HDV.out]; simp, rfl⟩⟩
    · obtain rfl : j = N := by omega
      obtain ⟨g1, rfl, hg1, hg2, hcap1, hcell1⟩ : ∃ g1, A0 = some ⟨g1, 0, none⟩ ∧ w.heap.size ≤ g1 ∧ g1 < wr.heap.size ∧ j ≤ n0 ∧ ∀ i u, ys[i]? = some u → wr.cell? ⟨g1, i, none⟩ = some u := by
        rcases HM.out.own.2 with ⟨_, h⟩ | ⟨g', cap', cur, hv', h1, h2, h3, _⟩
        · omega
        · injection hv' with e1 e2 e3
          subst e1
          exact ⟨g', rfl, h1, (Array.getElem?_eq_some_iff.1 h2).1, by omega, fun i u hu => by rw [← add_off]; exact HM.out.own.cells (g := g') rfl i u hu⟩
      have hyl : ys.length = j := by have := HM.out.own.1; omega
      have HYL := Lib.hid hyl
      have HTR : Hid (DnS wr (fun b => w.heap.size ≤ b ∧ b < wr.heap.size) r ys) := Lib.hid (by
        have h := HM.out.trees
        rw [List.take_of_length_le (by have := HIN.out.len; omega)] at h
        exact h.mono fun b ⟨q1, q2, _⟩ => ⟨⟨q1, q2⟩, rfl⟩)
      have HDS : Hid (isDvs k r = true) := Lib.hid (by rw [HS.out, List.drop_of_length_le (by have := HIN.out.len; omega)]; rfl)
      have C := Lib.hid (HNS.out wr g1 n0 ys ⟨hcell1, HTR.out.ifc, hyl, by omega, hcap1, by omega, hg2⟩)
      clear hyl hcell1 HNS
      go_wp2_with fail
      refine C.out.mono ?_
      rintro e w2 ⟨hb2, ⟨hok, u, rfl, hn⟩ | ⟨hok, rfl⟩⟩
      · have HOK := Lib.hid hok
        have HNA := Lib.hid hn
        have HB2 := Lib.hid hb2
        have hz2 := hb2.size
        obtain ⟨T, bu, rfl, _⟩ := hn.shape
        clear hok hn hb2
        go_wp2_with fail
        go_ret2
        refine ⟨HM.out.below.trans (HB2.out.mono hzw), .inl ⟨by rw [HD.out, HDS.out, ← HYL.out, HOK.out]; rfl, _, rfl, ?_⟩⟩
        unfold DnAt DnP
        refine .inr ⟨HPA.out, ys, HTR.out.mono fun b ⟨q1, q2⟩ => ⟨⟨q1, by omega⟩, HB2.out.block b q2⟩, HNA.out.mono fun b hb => ⟨?_, rfl⟩⟩
        rcases hb with rfl | ⟨q1, q2⟩
        · exact ⟨hg1, by omega⟩
        · exact ⟨by omega, q2⟩
      · have HOK := Lib.hid hok
        have HB2 := Lib.hid hb2
        clear hok hb2
        go_wp2_with fail
        go_ret2
        exact ⟨HM.out.below.trans (HB2.out.mono hzw), .inr ⟨by rw [HD.out, ← HYL.out, HOK.out]; rfl, rfl⟩⟩

set_option maxRecDepth 100000 in
theorem derivationOf_short (k : Bool) (a : List UInt8) (ps : List Tr) (h : ps.length < 2) (hd : isDv k (.mk a ps) = false) : DoSaid k (.mk a ps) := by
  intro v w P ht hP hw hl ha
  obtain ⟨b, vp, rfl, hPb, k0, k1, hle, hle2, hv⟩ := ht.form
  obtain ⟨A, n, c, rfl, hn⟩ : ∃ A n c, vp = .slice A n c ∧ n = ps.length := by
    rcases hv with ⟨rfl, rfl⟩ | ⟨_, g, cap, xs, rfl, _⟩
    · exact ⟨_, _, _, rfl, rfl⟩
    · exact ⟨_, _, _, rfl, rfl⟩
  have hlt2 : decide (((n : Nat) : Int) < 2) = true := decide_eq_true (by omega)
  have hn8 : n ≤ 8000 := by omega
  have HD := Lib.hid hd
  clear ht hP hw hl ha hv hd h hn hle2
  go_enter Tryz.func75, Tryz.ntmps75
  go_wp2_with fail
  go_ret2
  exact ⟨Below.refl _ _, .inr ⟨HD.out, rfl⟩⟩

set_option maxRecDepth 100000 in
theorem derivationOf_ax (k : Bool) (pq r : List Tr) (hr : r ≠ []) : DoSaid k (.mk [] (.mk [97, 120] pq :: r)) := by
  intro v w P ht hP hw hl ha
  obtain ⟨b, vp, rfl, hPb, k0, k1, hle, hle2, hv⟩ := ht.form
  rcases hv with ⟨h0, _⟩ | ⟨_, g, cap, xs, rfl, hcap, hPg, hc, hq⟩
  · cases h0
  obtain ⟨x0, e0, q0⟩ := hq.at_ 0 _ rfl
  obtain ⟨b0, rfl, hb0⟩ := q0.shape
  obtain ⟨b0', _, e, _, hk0, _, hpl, _⟩ := q0.form
  obtain rfl : b0 = b0' := by simpa using e
  have c0 := hc _ _ e0
  obtain ⟨hne, hws⟩ := wf_list _ hw
  have C := Lib.hid (axOf_any (.mk [97, 120] pq) r _ w P ht hP (fun u hu => Wfs_mem u _ (List.mem_cons_of_mem _ hu) hws) (fun u hu => by have := wrTr_part u (.mk [97, 120] pq :: r) (List.mem_cons_of_mem _ hu); omega)
    (fun u hu => by have := trsAtoms_mem u (.mk [97, 120] pq :: r) (List.mem_cons_of_mem _ hu); have e : trAtoms (.mk [] (.mk [97, 120] pq :: r)) = trsAtoms (.mk [97, 120] pq :: r) := (by simp [trAtoms]); omega))
  have HD : Hid (isDv k (.mk [] (.mk [97, 120] pq :: r)) = axL r) := Lib.hid (by unfold isDv isDvP; rw [if_pos rfl, if_pos (show (Tr.mk [97, 120] pq).atom = sAx from rfl)])
  obtain ⟨N, hN⟩ : ∃ N, (Tr.mk [97, 120] pq :: r).length = N := ⟨_, rfl⟩
  have hN2 : 2 ≤ N := by have := List.length_pos_iff.2 hr; simp at hN; omega
  rw [hN] at hle2 hcap k1
  have hlt2 : decide (((N : Nat) : Int) < 2) = false := decide_eq_false (by omega)
  have hgl := hP g hPg
  have hbl := hP b hPb
  have hb0l := hP b0 hb0
  clear ht hP hc hq e e0 q0 hne hws hw hl ha hN hr
  go_enter Tryz.func75, Tryz.ntmps75
  go_wp2_with fail
  refine C.out.mono ?_
  rintro e w1 ⟨hb1, ⟨hok, u, t, rfl, hu1, hu2, rfl, htl, hk⟩ | ⟨hok, rfl⟩⟩
  · have HOK := Lib.hid hok
    have HK := Lib.hid hk
    have HB1 := Lib.hid hb1
    clear hok hk hb1
    go_wp2_with fail
    go_ret2
    refine ⟨HB1.out, .inl ⟨by rw [HD.out, HOK.out], _, rfl, ?_⟩⟩
    unfold DnAt DnP
    exact .inl ⟨rfl, u, t, rfl, rfl, ⟨hu2, hu1⟩, htl, HK.out⟩
  · have HOK := Lib.hid hok
    have HB1 := Lib.hid hb1
    clear hok hb1
    go_wp2_with fail
    go_ret2
    exact ⟨HB1.out, .inr ⟨by rw [HD.out, HOK.out], rfl⟩⟩

theorem derivationOf_any (k : Bool) : ∀ t : Tr, DoSaid k t := by
  intro t
  refine Tr.all (p := DoSaid k) ?_ t
  intro a ps ih
  by_cases ha : a = []
  · subst ha
    match ps, ih with
    | [], _ => exact derivationOf_short k [] [] (by simp) rfl
    | [.mk pa pq], _ =>
      refine derivationOf_short k [] _ (by simp) ?_
      unfold isDv isDvP
      rw [if_pos rfl]
      by_cases hx : (Tr.mk pa pq).atom = sAx
      · rw [if_pos hx]; rfl
      · rw [if_neg hx]
        have : ndOk k (Tr.mk pa pq).atom ([] : List Tr).length = false := by
          unfold ndOk
          repeat' split
          all_goals simp
        rw [this]; rfl
    | .mk pa pq :: u :: r, ih =>
      by_cases hx : pa = sAx
      · subst hx
        exact derivationOf_ax k pq (u :: r) (by simp)
      · exact derivationOf_node k pa pq (u :: r) hx (by simp) fun t ht => ih t (List.mem_cons_of_mem _ ht)
  · intro v w P ht hP hw hl hat
    have hps := wf_atom a ps hw ha
    subst hps
    exact derivationOf_short k a [] (by simp) (by unfold isDv; rw [if_neg ha]) v w P ht hP hw hl hat
end Go.Proofs.YtnnnphammfeemaaGreat

namespace Go.Proofs.YtnnnphammfeemaaGreat
set_option linter.unusedVariables false
open Go.RowKit Go.Shelf
attribute [local go_sem] Oper.semAt_some

theorem NElAt.steady {P : Nat → Prop} {n₀ D : Nat} {x : NEl} {w w' : World} (h : NElAt P x w) (hs : Steady D w w') (hP : ∀ b, P b → b < n₀) (hn : n₀ ≤ D) : NElAt P x w' :=
  DnAt.mono h fun b hb => ⟨hb, hs.below.block b (by have := hP b hb; omega)⟩
theorem nset_far (W : World) (b i : Nat) (v : Value) (q : Nat) (h : q ≠ b) : (W.setCell ⟨b, i, none⟩ v).heap[q]? = W.heap[q]? := Below.heap_setCell _ _ _ _ (by simpa using h)
theorem nmid_set {tk : TypeId → Prop} {n₀ n₁ : Nat} {W : World} {b i : Nat} (v : Value) (h0 : n₀ ≤ b) (h1 : b < n₁) : Mid tk n₀ n₁ W (W.setCell ⟨b, i, none⟩ v) :=
  ⟨(Below.refl _ _).setCell (p := ⟨b, i, none⟩) (by simpa using h0) v, fun q cs t hq _ h3 => (nset_far W b i v q (by omega)).trans h3⟩
theorem nbelow_putObj {B : Nat} {W : World} {l : Nat} {o : Obj} (h : B ≤ l) : Below B W (W.putObj l o) := putObj_below _ _ _ _ h
theorem nEnds_set {D : Nat} {W : World} {b i : Nat} {v : Value} (h : b < D) : Ends D W (W.setCell ⟨b, i, none⟩ v) := ⟨nset_far _ _ _ _ _ (by omega), nset_far _ _ _ _ _ (by omega)⟩

set_option maxRecDepth 100000 in
set_option maxHeartbeats 2000000 in
theorem countNodes_any (t : Tr) (v : Value) (w : World) (P : Nat → Prop) (hd : DnAt w P t v) (hP : ∀ b, P b → b < w.heap.size) (hN : dvN t ≤ 20000) :
    Calls Tryz.prog 55 #[v] w fun e w' => e = .returned (.int .i64 (dvN t)) ∧ Below w.heap.size w w' := by
  obtain ⟨T, b, rfl, hb⟩ := hd.shape
  have hlen := nodes_length t
  refine (callsIn_wide (n := 3)).1 ?_
  refine callsIn_of_wp_marks Tryz.func55 rfl trivial ?_
  simp only [Tryz.ntmps55, List.size_toArray, List.length_cons, List.length_nil, Nat.reduceAdd, Nat.reduceSub, Array.replicate_succ, Array.replicate_zero, List.push_toArray, List.append_toArray, List.nil_append, List.cons_append]
  gi_wp2_with ((try refine ⟨trivial, ?_⟩); (try refine ⟨hdW' _, ?_⟩); gi_at_call 41; refine (callsIn_wide.2 (nodes_any T b _)).mono ?_; rintro e w1 ⟨rfl, rfl⟩)
  have hB0 : Boxed (w.alloc (.cells #[.int .i64 0] 3)) w.heap.size 3 (.int .i64 0) := Boxed.new _ _ _
  have hW0 : Below w.heap.size w (w.alloc (.cells #[.int .i64 0] 3)) := (Below.refl _ _).alloc (Nat.le_refl _) _
  have hs0 : (w.alloc (.cells #[.int .i64 0] 3)).heap.size = w.heap.size + 1 := by simp
  generalize w.alloc (.cells #[.int .i64 0] 3) = w0 at hB0 hW0 hs0
  have hb1 : (w0.alloc (.cells #[.iface T (.pointer (some ⟨b, 0, none⟩))] 68)).cell? ⟨w0.heap.size, 0, none⟩ = some (.iface T (.pointer (some ⟨b, 0, none⟩))) := (Boxed.new _ _ _).cell
  have hB1 : Boxed (w0.alloc (.cells #[.iface T (.pointer (some ⟨b, 0, none⟩))] 68)) w.heap.size 3 (.int .i64 0) := hB0.alloc _
  have hW1 : Below w.heap.size w (w0.alloc (.cells #[.iface T (.pointer (some ⟨b, 0, none⟩))] 68)) := hW0.alloc (by omega) _
  have hs1 : (w0.alloc (.cells #[.iface T (.pointer (some ⟨b, 0, none⟩))] 68)).heap.size = w.heap.size + 2 := by simp [hs0]
  rw [hs0] at hb1
  generalize w0.alloc (.cells #[.iface T (.pointer (some ⟨b, 0, none⟩))] 68) = w1 at hb1 hB1 hW1 hs1
  refine wp_rounds (n₀ := w.heap.size) (tk := dnT) rfl (by omega) (gf := 76) (lb := #[.pointer (some ⟨w.heap.size + 1, 0, none⟩)]) rfl trivial (enters_of Tryz.func76 (by kernel_rfl) rfl) (by omega)
    (nodes_gives P w.heap.size _ _ (w.heap.size + 1) b T t w1 (by omega) hb1 (hd.mono fun q hq => ⟨hq, hW1.block q (hP q hq)⟩) hP (by omega) (by omega) hN) (fun _ => rfl)
    (fun pre W => Boxed W w.heap.size 3 (.int .i64 (pre.length : Nat)) ∧ Below w.heap.size w W) (fun _ _ _ => False)
    (fun x W W' h hs => h.steady hs hP (by omega)) (fun s W W' h hs => ⟨(hs.below.block _ (by omega)).trans h.1, h.2.trans (hs.below.mono (by omega))⟩) (fun _ _ _ _ h _ => h) ⟨hB1, hW1⟩ ?a₁ ?assign ?body ?done ?stop
  case assign =>
    intro l x W K hK
    dsimp only [nelV]
    gi_wp2
    exact hK
  case body =>
    rintro l pre x W ⟨hbx, hw⟩ hx hlen2 hz
    obtain ⟨u, r⟩ := x
    have hcell := hbx.cell
    have hfr := hbx.frozen
    have hpre : pre.length ≤ 20000 := by omega
    have e1 : IntKind.i64.wrap ((pre.length : Int) + 1) = ((pre.length + 1 : Nat) : Int) := by rw [IntWalk.i64_in _ (by omega)]; omega
    clear hx
    gi_wp2
    refine ⟨nEnds_set (by omega), nmid_set _ (Nat.le_refl _) (by omega), ?_, hw.setCell (p := ⟨w.heap.size, 0, none⟩) (Nat.le_refl _) _⟩
    rw [List.length_append, List.length_singleton]
    exact hbx.set _
  case done =>
    rintro xs W hxs ⟨hbx, hw⟩ hK
    have hcell := hbx.cell
    gi_wp2
    refine ⟨by simp, .inl ⟨_, _, rfl, run_takeDeferred hK, ?_⟩⟩
    refine ⟨_, results_tmp rfl _ _ _, ?_, hw.trans (nbelow_putObj (by omega))⟩
    rw [← hlen, ← hxs, List.length_map]
    rfl
  case stop =>
    intro c pre W _ h _
    exact h.elim

/-- What reading a derivation answers. -/
def RvPost (x : List UInt8) (s : ByteArray) (w : World) (e : Ending) (w' : World) : Prop :=
  Below w.heap.size w w' ∧ ((∃ t u, rdDv x s.data.toList = some t ∧ e = .returned (.tuple #[u, .bool true]) ∧ DnAt w' (fun b => w.heap.size ≤ b ∧ b < w'.heap.size) t u) ∨ (rdDv x s.data.toList = none ∧ e = .returned (.tuple #[.nilIface, .bool false])))
set_option maxRecDepth 100000 in
set_option maxHeartbeats 1000000 in
theorem readDerivation_any (x : List UInt8) (s : ByteArray) (w : World) (hm : s.size ≤ maxLen) :
    Calls Tryz.prog 40 #[.string ⟨x.toArray⟩, .string s] w (RvPost x s w) := by
  have CK := Lib.hid (readKind_any x w)
  cases hk : rdKind x with
  | none =>
    have HR : Hid (rdDv x s.data.toList = none) := Lib.hid (by unfold rdDv; rw [hk])
    rw [hk] at CK
    clear hk
    go_enter Tryz.func40, Tryz.ntmps40
    go_wp2_with fail
    refine CK.out.mono ?_
    rintro e w1 ⟨rfl, rfl⟩
    simp only [Option.isSome]
    go_wp2_with fail
    go_ret2
    exact ⟨Below.refl _ _, .inr ⟨HR.out, rfl⟩⟩
  | some k =>
    have HXK : Hid (x = kindT k) := Lib.hid (rdKind_some x k hk)
    have HK := Lib.hid hk
    rw [hk] at CK
    clear hk
    go_enter Tryz.func40, Tryz.ntmps40
    go_wp2_with fail
    refine CK.out.mono ?_
    rintro e w1 ⟨rfl, rfl⟩
    simp only [Option.isSome]
    go_wp2_with fail
    refine (readText_any s _ hm).mono ?_
    rintro e w2 ⟨hb2, ⟨t, v, hrd, rfl, hpt⟩ | ⟨hrd, rfl⟩⟩
    · obtain ⟨b, rfl, _⟩ := hpt.shape
      have hok := rdText_ok _ _ hrd
      have htx := rdText_text _ _ hrd
      have hz2 := hb2.size
      have C := Lib.hid (derivationOf_any k t _ w2 _ hpt (fun q hq => hq.2) hok.1 (by rw [htx]; exact hok.2.2) (by omega))
      have hat := ndOk_atoms k t
      have HB2 := Lib.hid hb2
      have HRD := Lib.hid hrd
      have HAT : Hid (isDv k t = true → dvN t ≤ 20000) := Lib.hid fun h => by have := hat h; omega
      rw [← HXK.out] at C
      clear hpt hok htx hat hb2 hrd
      go_wp2_with fail
      refine C.out.mono ?_
      rintro e w3 ⟨hb3, ⟨hdv, u, rfl, hu⟩ | ⟨hdv, rfl⟩⟩
      · obtain ⟨T, q, rfl, _⟩ := hu.shape
        have hz3 := hb3.size
        have CN := Lib.hid (countNodes_any t _ w3 _ hu (fun q hq => hq.2) (HAT.out hdv))
        have HU := Lib.hid hu
        have HB3 := Lib.hid (HB2.out.trans (hb3.mono hz2))
        have HR : Hid (rdDv x s.data.toList = if dvN t ≤ 600 then some t else none) := Lib.hid (by unfold rdDv; rw [HK.out, HRD.out]; simp only [hdv, true_and])
        have hn2 := HAT.out hdv
        obtain ⟨N, hN⟩ : ∃ N, dvN t = N := ⟨_, rfl⟩
        rw [hN] at CN HR hn2
        clear hu hb3 hdv hN
        by_cases h6 : N ≤ 600
        · have hb : decide ((600 : Int) < (N : Int)) = false := decide_eq_false (by omega)
          have H6 := Lib.hid h6
          go_wp2_with fail
          refine CN.out.mono ?_
          rintro e w4 ⟨rfl, hb4⟩
          have hz4 := hb4.size
          have HB4 := Lib.hid hb4
          clear hb4
          go_wp2_with fail
          go_ret2
          refine ⟨HB3.out.trans (HB4.out.mono (by omega)), .inl ⟨t, _, by rw [HR.out, if_pos H6.out], rfl, HU.out.mono fun b hb => ⟨⟨by omega, by omega⟩, HB4.out.block b hb.2⟩⟩⟩
        · have hb : decide ((600 : Int) < (N : Int)) = true := decide_eq_true (by omega)
          have H6 := Lib.hid h6
          go_wp2_with fail
          refine CN.out.mono ?_
          rintro e w4 ⟨rfl, hb4⟩
          have HB4 := Lib.hid hb4
          clear hb4
          go_wp2_with fail
          go_ret2
          exact ⟨HB3.out.trans (HB4.out.mono (by omega)), .inr ⟨by rw [HR.out, if_neg H6.out], rfl⟩⟩
      · have HR : Hid (rdDv x s.data.toList = none) := Lib.hid (by unfold rdDv; rw [HK.out, HRD.out]; simp [hdv])
        have HB3 := Lib.hid (HB2.out.trans (hb3.mono hz2))
        clear hdv hb3
        go_wp2_with fail
        go_ret2
        exact ⟨HB3.out, .inr ⟨HR.out, rfl⟩⟩
    · have HR : Hid (rdDv x s.data.toList = none) := Lib.hid (by unfold rdDv; rw [HK.out, hrd])
      clear hrd
      go_wp2_with fail
      go_ret2
      exact ⟨hb2, .inr ⟨HR.out, rfl⟩⟩
end Go.Proofs.YtnnnphammfeemaaGreat

namespace Go.Proofs.YtnnnphammfeemaaGreat
set_option linter.unusedVariables false
set_option linter.unusedSimpArgs false
open Go.RowKit Go.Shelf
attribute [local go_sem] Oper.semAt_some

theorem Tryz.ta_ax_ax (p : Option Addr) (w : World) : (Instr.typeAssert (.iface 74 (.pointer p)) 68 74 true).run Tryz.prog w = .ok (.tuple #[.pointer p, .bool true]) w := by kernel_rfl
theorem Tryz.ta_ax_fun (p : Option Addr) (w : World) : (Instr.typeAssert (.iface 74 (.pointer p)) 68 127 true).run Tryz.prog w = .ok (.tuple #[.pointer none, .bool false]) w := by kernel_rfl
theorem Tryz.ta_ax_app (p : Option Addr) (w : World) : (Instr.typeAssert (.iface 74 (.pointer p)) 68 128 true).run Tryz.prog w = .ok (.tuple #[.pointer none, .bool false]) w := by kernel_rfl
theorem Tryz.ta_fun_ax (p : Option Addr) (w : World) : (Instr.typeAssert (.iface 127 (.pointer p)) 68 74 true).run Tryz.prog w = .ok (.tuple #[.pointer none, .bool false]) w := by kernel_rfl
theorem Tryz.ta_fun_fun (p : Option Addr) (w : World) : (Instr.typeAssert (.iface 127 (.pointer p)) 68 127 true).run Tryz.prog w = .ok (.tuple #[.pointer p, .bool true]) w := by kernel_rfl
theorem Tryz.ta_fun_app (p : Option Addr) (w : World) : (Instr.typeAssert (.iface 127 (.pointer p)) 68 128 true).run Tryz.prog w = .ok (.tuple #[.pointer none, .bool false]) w := by kernel_rfl
theorem Tryz.ta_tfun_ax (p : Option Addr) (w : World) : (Instr.typeAssert (.iface 198 (.pointer p)) 68 74 true).run Tryz.prog w = .ok (.tuple #[.pointer none, .bool false]) w := by kernel_rfl
theorem Tryz.ta_tfun_fun (p : Option Addr) (w : World) : (Instr.typeAssert (.iface 198 (.pointer p)) 68 127 true).run Tryz.prog w = .ok (.tuple #[.pointer none, .bool false]) w := by kernel_rfl
theorem Tryz.ta_tfun_app (p : Option Addr) (w : World) : (Instr.typeAssert (.iface 198 (.pointer p)) 68 128 true).run Tryz.prog w = .ok (.tuple #[.pointer none, .bool false]) w := by kernel_rfl
theorem Tryz.ta_hap_ax (p : Option Addr) (w : World) : (Instr.typeAssert (.iface 202 (.pointer p)) 68 74 true).run Tryz.prog w = .ok (.tuple #[.pointer none, .bool false]) w := by kernel_rfl
theorem Tryz.ta_hap_fun (p : Option Addr) (w : World) : (Instr.typeAssert (.iface 202 (.pointer p)) 68 127 true).run Tryz.prog w = .ok (.tuple #[.pointer none, .bool false]) w := by kernel_rfl
theorem Tryz.ta_hap_app (p : Option Addr) (w : World) : (Instr.typeAssert (.iface 202 (.pointer p)) 68 128 true).run Tryz.prog w = .ok (.tuple #[.pointer none, .bool false]) w := by kernel_rfl
theorem Tryz.ta_tap_ax (p : Option Addr) (w : World) : (Instr.typeAssert (.iface 205 (.pointer p)) 68 74 true).run Tryz.prog w = .ok (.tuple #[.pointer none, .bool false]) w := by kernel_rfl
theorem Tryz.ta_tap_fun (p : Option Addr) (w : World) : (Instr.typeAssert (.iface 205 (.pointer p)) 68 127 true).run Tryz.prog w = .ok (.tuple #[.pointer none, .bool false]) w := by kernel_rfl
theorem Tryz.ta_tap_app (p : Option Addr) (w : World) : (Instr.typeAssert (.iface 205 (.pointer p)) 68 128 true).run Tryz.prog w = .ok (.tuple #[.pointer none, .bool false]) w := by kernel_rfl
theorem Tryz.ta_app_ax (p : Option Addr) (w : World) : (Instr.typeAssert (.iface 128 (.pointer p)) 68 74 true).run Tryz.prog w = .ok (.tuple #[.pointer none, .bool false]) w := by kernel_rfl
theorem Tryz.ta_app_fun (p : Option Addr) (w : World) : (Instr.typeAssert (.iface 128 (.pointer p)) 68 127 true).run Tryz.prog w = .ok (.tuple #[.pointer none, .bool false]) w := by kernel_rfl
theorem Tryz.ta_app_app (p : Option Addr) (w : World) : (Instr.typeAssert (.iface 128 (.pointer p)) 68 128 true).run Tryz.prog w = .ok (.tuple #[.pointer p, .bool true]) w := by kernel_rfl
/-- The word of a node, whatever its atom. -/
def Tr.pw : Tr → List UInt8
  | .mk _ [] => []
  | .mk _ (p :: _) => p.atom
theorem pw_wd (k : Bool) (t : Tr) (h : isDv k t = true) : t.pw = t.wd := by
  obtain ⟨a, ps⟩ := t
  unfold isDv at h
  split at h
  · rename_i ha
    subst ha
    cases ps <;> rfl
  · cases h
def pl2 (t : Tr) : Bool := t.pw == sAx || t.pw == sFun || t.pw == sApp
theorem all_pl2 (t : Tr) (h : isDv false t = true) : (nodesT t).all pl2 = dvP t := by
  rw [← nodes_plain t h]
  have key : ∀ l : List Tr, (∀ u ∈ l, isDv false u = true) → l.all pl2 = l.all plOne := by
    intro l
    induction l with
    | nil => intro _; rfl
    | cons u l ih =>
      intro hl
      have e : pl2 u = plOne u := by unfold pl2 plOne; rw [pw_wd false u (hl u (List.mem_cons_self ..))]
      rw [List.all_cons, List.all_cons, e, ih fun x hx => hl x (List.mem_cons_of_mem _ hx)]
  exact key _ (nodes_of false t h)
/-- What kind of node a derivation is. -/
theorem DnAt.kindOf {w : World} {P : Nat → Prop} {t : Tr} {v : Value} (h : DnAt w P t v) : ∃ b, P b ∧
    ((v = .iface 74 (.pointer (some ⟨b, 0, none⟩)) ∧ t.pw = sAx ∧ ∃ a p u, t = .mk a [p, u] ∧ (wrTr u).length ≤ 8000 ∧ Blk w b 78 #[.string ⟨(wrTr u).toArray⟩]) ∨
     (v = .iface 127 (.pointer (some ⟨b, 0, none⟩)) ∧ t.pw = sFun) ∨ (v = .iface 198 (.pointer (some ⟨b, 0, none⟩)) ∧ t.pw = sTfun) ∨ (v = .iface 202 (.pointer (some ⟨b, 0, none⟩)) ∧ t.pw = sHap) ∨
     (v = .iface 205 (.pointer (some ⟨b, 0, none⟩)) ∧ t.pw = sTap) ∨ (v = .iface 128 (.pointer (some ⟨b, 0, none⟩)) ∧ t.pw = sApp)) := by
  obtain ⟨a, ps⟩ := t
  cases ps with
  | nil => unfold DnAt DnP at h; exact h.elim
  | cons p r =>
    have hw : (Tr.mk a (p :: r)).pw = p.atom := rfl
    rw [hw]
    rcases h.form with ⟨ha, b, u, rfl, rfl, hb, hl, hk⟩ | ⟨ha, xs, hs, hn⟩
    · exact ⟨b, hb, .inl ⟨rfl, ha, a, p, u, rfl, hl, hk⟩⟩
    · rcases hn with ⟨e, b, y, rfl, rfl, hb, hk⟩ | ⟨e, b, y, rfl, rfl, hb, hk⟩ | ⟨e, b, y, rfl, rfl, hb, hk⟩ | ⟨e, b, y, z, rfl, rfl, hb, hk⟩ | ⟨e, b, y, ys, g, o, c, rfl, rfl, hb, hg, hk, hc, hlc⟩
      · exact ⟨b, hb, .inr (.inl ⟨rfl, e⟩)⟩
      · exact ⟨b, hb, .inr (.inr (.inl ⟨rfl, e⟩))⟩
      · exact ⟨b, hb, .inr (.inr (.inr (.inl ⟨rfl, e⟩)))⟩
      · exact ⟨b, hb, .inr (.inr (.inr (.inr (.inl ⟨rfl, e⟩))))⟩
      · exact ⟨b, hb, .inr (.inr (.inr (.inr (.inr ⟨rfl, e⟩))))⟩
theorem pl2_of {t : Tr} {x : List UInt8} (h : t.pw = x) : pl2 t = (x == sAx || x == sFun || x == sApp) := by unfold pl2; rw [h]
theorem all_of_prefix {α : Type} {f : α → Bool} {a b : List α} (h : a <+: b) (x : α) (hx : x ∈ a) (hf : f x = false) : b.all f = false := by
  obtain ⟨c, rfl⟩ := h
  rw [List.all_append, List.all_eq_false.2 ⟨x, hx, by simp [hf]⟩]
  rfl

set_option maxRecDepth 100000 in
set_option maxHeartbeats 2000000 in
theorem isPlain_any (t : Tr) (ht : isDv false t = true) (v : Value) (w : World) (P : Nat → Prop) (hd : DnAt w P t v) (hP : ∀ b, P b → b < w.heap.size) (hN : dvN t ≤ 20000) :
    Calls Tryz.prog 44 #[v] w fun e w' => e = .returned (.bool (dvP t)) ∧ Below w.heap.size w w' := by
  obtain ⟨T, b, rfl, hb⟩ := hd.shape
  have hpl := all_pl2 t ht
  refine (callsIn_wide (n := 3)).1 ?_
  refine callsIn_of_wp_marks Tryz.func44 rfl trivial ?_
  simp only [Tryz.ntmps44, List.size_toArray, List.length_cons, List.length_nil, Nat.reduceAdd, Nat.reduceSub, Array.replicate_succ, Array.replicate_zero, List.push_toArray, List.append_toArray, List.nil_append, List.cons_append]
  gi_wp2_with ((try refine ⟨trivial, ?_⟩); (try refine ⟨hdW' _, ?_⟩); gi_at_call 41; refine (callsIn_wide.2 (nodes_any T b _)).mono ?_; rintro e w1 ⟨rfl, rfl⟩)
  have hB0 : Boxed (w.alloc (.cells #[.bool false] 4)) w.heap.size 4 (.bool false) := Boxed.new _ _ _
  have hW0 : Below w.heap.size w (w.alloc (.cells #[.bool false] 4)) := (Below.refl _ _).alloc (Nat.le_refl _) _
  have hs0 : (w.alloc (.cells #[.bool false] 4)).heap.size = w.heap.size + 1 := by simp
  generalize w.alloc (.cells #[.bool false] 4) = w0 at hB0 hW0 hs0
  have hb1 : (w0.alloc (.cells #[.iface T (.pointer (some ⟨b, 0, none⟩))] 68)).cell? ⟨w0.heap.size, 0, none⟩ = some (.iface T (.pointer (some ⟨b, 0, none⟩))) := (Boxed.new _ _ _).cell
  have hB1 : Boxed (w0.alloc (.cells #[.iface T (.pointer (some ⟨b, 0, none⟩))] 68)) w.heap.size 4 (.bool false) := hB0.alloc _
  have hW1 : Below w.heap.size w (w0.alloc (.cells #[.iface T (.pointer (some ⟨b, 0, none⟩))] 68)) := hW0.alloc (by omega) _
  have hs1 : (w0.alloc (.cells #[.iface T (.pointer (some ⟨b, 0, none⟩))] 68)).heap.size = w.heap.size + 2 := by simp [hs0]
  rw [hs0] at hb1
  generalize w0.alloc (.cells #[.iface T (.pointer (some ⟨b, 0, none⟩))] 68) = w1 at hb1 hB1 hW1 hs1
  refine wp_rounds (n₀ := w.heap.size) (tk := dnT) rfl (by omega) (gf := 76) (lb := #[.pointer (some ⟨w.heap.size + 1, 0, none⟩)]) rfl trivial (enters_of Tryz.func76 (by kernel_rfl) rfl) (by omega)
    (nodes_gives P w.heap.size _ _ (w.heap.size + 1) b T t w1 (by omega) hb1 (hd.mono fun q hq => ⟨hq, hW1.block q (hP q hq)⟩) hP (by omega) (by omega) hN) (fun _ => rfl)
    (fun pre W => Boxed W w.heap.size 4 (.bool false) ∧ Below w.heap.size w W ∧ ∀ x ∈ pre, pl2 x.2 = true)
    (fun c pre W => c = .ret ∧ Boxed W w.heap.size 4 (.bool false) ∧ Below w.heap.size w W ∧ ∃ x ∈ pre, pl2 x.2 = false)
    (fun x W W' h hs => h.steady hs hP (by omega)) (fun s W W' h hs => ⟨(hs.below.block _ (by omega)).trans h.1, h.2.1.trans (hs.below.mono (by omega)), h.2.2⟩) (fun c s W W' h hs => ⟨h.1, (hs.below.block _ (by omega)).trans h.2.1, h.2.2.1.trans (hs.below.mono (by omega)), h.2.2.2⟩) ⟨hB1, hW1, fun x hx => by cases hx⟩ ?a₁ ?assign ?body ?done ?stop
  case assign =>
    intro l x W K hK
    dsimp only [nelV]
    gi_wp2
    exact hK
  case body =>
    rintro l pre x W ⟨hbx, hw, hall⟩ hx hlen2 hz
    obtain ⟨u, r⟩ := x
    have hcell := hbx.cell
    have hfr := hbx.frozen
    have HALL := Lib.hid hall
    obtain ⟨bu, _, hk⟩ := DnAt.kindOf hx
    clear hx hall
    rcases hk with ⟨e, hk, -⟩ | ⟨e, hk⟩ | ⟨e, hk⟩ | ⟨e, hk⟩ | ⟨e, hk⟩ | ⟨e, hk⟩
    · dsimp only at e hk
      subst e
      have HPO := Lib.hid (pl2_of hk)
      have ta1 := Tryz.ta_ax_ax
      have ta2 := Tryz.ta_ax_fun
      have ta3 := Tryz.ta_ax_app
      clear hk
      gi_wp2
      refine ⟨⟨rfl, rfl⟩, Mid.refl _ _ _ _, hbx, hw, fun x hx => ?_⟩
      rcases List.mem_append.1 hx with h | h
      · exact HALL.out x h
      · rw [List.mem_singleton.1 h, HPO.out]
        rfl
    · dsimp only at e hk
      subst e
      have HPO := Lib.hid (pl2_of hk)
      have ta1 := Tryz.ta_fun_ax
      have ta2 := Tryz.ta_fun_fun
      have ta3 := Tryz.ta_fun_app
      clear hk
      gi_wp2
      refine ⟨⟨rfl, rfl⟩, Mid.refl _ _ _ _, hbx, hw, fun x hx => ?_⟩
      rcases List.mem_append.1 hx with h | h
      · exact HALL.out x h
      · rw [List.mem_singleton.1 h, HPO.out]
        rfl
    · dsimp only at e hk
      subst e
      have HPO := Lib.hid (pl2_of hk)
      have ta1 := Tryz.ta_tfun_ax
      have ta2 := Tryz.ta_tfun_fun
      have ta3 := Tryz.ta_tfun_app
      clear hk
      gi_wp2
      exact ⟨nEnds_set (by omega), rfl, hbx.set _, hw.setCell (p := ⟨w.heap.size, 0, none⟩) (Nat.le_refl _) _, _, List.mem_append_right _ (List.mem_singleton.2 rfl), by rw [HPO.out]; rfl⟩
    · dsimp only at e hk
      subst e
      have HPO := Lib.hid (pl2_of hk)
      have ta1 := Tryz.ta_hap_ax
      have ta2 := Tryz.ta_hap_fun
      have ta3 := Tryz.ta_hap_app
      clear hk
      gi_wp2
      exact ⟨nEnds_set (by omega), rfl, hbx.set _, hw.setCell (p := ⟨w.heap.size, 0, none⟩) (Nat.le_refl _) _, _, List.mem_append_right _ (List.mem_singleton.2 rfl), by rw [HPO.out]; rfl⟩
    · dsimp only at e hk
      subst e
      have HPO := Lib.hid (pl2_of hk)
      have ta1 := Tryz.ta_tap_ax
      have ta2 := Tryz.ta_tap_fun
      have ta3 := Tryz.ta_tap_app
      clear hk
      gi_wp2
      exact ⟨nEnds_set (by omega), rfl, hbx.set _, hw.setCell (p := ⟨w.heap.size, 0, none⟩) (Nat.le_refl _) _, _, List.mem_append_right _ (List.mem_singleton.2 rfl), by rw [HPO.out]; rfl⟩
    · dsimp only at e hk
      subst e
      have HPO := Lib.hid (pl2_of hk)
      have ta1 := Tryz.ta_app_ax
      have ta2 := Tryz.ta_app_fun
      have ta3 := Tryz.ta_app_app
      clear hk
      gi_wp2
      refine ⟨⟨rfl, rfl⟩, Mid.refl _ _ _ _, hbx, hw, fun x hx => ?_⟩
      rcases List.mem_append.1 hx with h | h
      · exact HALL.out x h
      · rw [List.mem_singleton.1 h, HPO.out]
        rfl
  case done =>
    rintro xs W hxs ⟨hbx, hw, hall⟩ hK
    have hcell := hbx.cell
    have hfr := hbx.frozen
    have hbs := (hbx.set (.bool true)).cell
    have HT : Hid (dvP t = true) := Lib.hid (by
      rw [← hpl, ← hxs, List.all_map]
      exact List.all_eq_true.2 fun x hx => hall x hx)
    clear hall
    gi_wp2
    refine ⟨by simp, .inl ⟨_, _, rfl, run_takeDeferred ((nset_far _ _ _ _ _ (by omega)).trans hK), ?_⟩⟩
    have hq : ((W.setCell ⟨w.heap.size, 0, none⟩ (.bool true)).putObj w1.heap.size (.deferred none)).cell? ⟨w.heap.size, 0, none⟩ = some (.bool true) := (World.cell?_of_block (World.putObj_heap_other (by dsimp only; omega))).trans hbs
    refine ⟨.bool true, by simp [results, Tryz.results44, go_sem, hq], by rw [HT.out], (hw.setCell (p := ⟨w.heap.size, 0, none⟩) (Nat.le_refl _) _).trans (nbelow_putObj (by omega))⟩
  case stop =>
    rintro c pre W hpre ⟨rfl, hbx, hw, x, hx, hf⟩ hK
    have hcell := hbx.cell
    have HT : Hid (dvP t = false) := Lib.hid (by
      rw [← hpl]
      exact all_of_prefix hpre x.2 (List.mem_map_of_mem hx) hf)
    clear hx hf hpre
    gi_wp2
    refine ⟨by simp, .inl ⟨_, _, rfl, run_takeDeferred hK, ?_⟩⟩
    have hq : (W.putObj w1.heap.size (.deferred none)).cell? ⟨w.heap.size, 0, none⟩ = some (.bool false) := (World.cell?_of_block (World.putObj_heap_other (by dsimp only; omega))).trans hcell
    refine ⟨.bool false, by simp [results, Tryz.results44, go_sem, hq], by rw [HT.out], hw.trans (nbelow_putObj (by omega))⟩

theorem implDerivePlain_any (s : ByteArray) (w : World) (hm : s.size ≤ maxLen) :
    Calls Tryz.prog 23 #[.string s] w fun e w' => e = .returned (.bool (plR s.data.toList)) ∧ Below w.heap.size w w' := by
  have CR : Hid (∀ w, Calls Tryz.prog 40 #[.string ⟨#[102, 117, 108, 108]⟩, .string s] w (RvPost (kindT false) s w)) := Lib.hid fun w => readDerivation_any (kindT false) s w hm
  go_enter Tryz.func23, Tryz.ntmps23
  go_wp2_with fail
  refine (CR.out _).mono ?_
  rintro e w1 ⟨hb1, ⟨t, u, hrd, rfl, hu⟩ | ⟨hrd, rfl⟩⟩
  · obtain ⟨k, hk, hrt, hd, hn⟩ := rdDv_spec _ _ _ hrd
    obtain rfl : k = false := by
      have : rdKind (kindT false) = some false := by decide
      rw [this] at hk
      injection hk with hk
      exact hk.symm
    have C := Lib.hid (isPlain_any t hd _ w1 _ hu (fun q hq => hq.2) (by omega))
    obtain ⟨T, q, rfl, _⟩ := hu.shape
    have HR : Hid (plR s.data.toList = dvP t) := Lib.hid (by unfold plR; rw [hrd])
    have hz1 := hb1.size
    have HB1 := Lib.hid hb1
    clear hrd hu hk hrt hd hn hb1
    go_wp2_with fail
    refine C.out.mono ?_
    rintro e w2 ⟨rfl, hb2⟩
    have HB2 := Lib.hid (HB1.out.trans (hb2.mono hz1))
    clear hb2
    go_wp2_with fail
    go_ret
    exact ⟨ret_bool (by rw [HR.out]), HB2.out⟩
  · have HR : Hid (plR s.data.toList = false) := Lib.hid (by unfold plR; rw [hrd])
    clear hrd
    go_wp2
    go_ret
    exact ⟨ret_bool (by rw [HR.out]), hb1⟩
end Go.Proofs.YtnnnphammfeemaaGreat

namespace Go.Proofs.YtnnnphammfeemaaGreat
set_option linter.unusedVariables false
set_option linter.unusedSimpArgs false
open Go.RowKit Go.Shelf
attribute [local go_sem] Oper.semAt_some

theorem own_keep {w w' : World} {base e size n : Nat} {v : Value} {xs : List Value} (h : w.ownsRow base e size v n xs) (hk : ∀ k, v.ownBlock = some k → w'.heap[k]? = w.heap[k]?) : w'.ownsRow base e size v n xs := by
  refine ⟨h.1, ?_⟩
  rcases h.2 with hn | ⟨g, cap, cur, rfl, hb, hgg, rest⟩
  · exact .inl hn
  · exact .inr ⟨g, cap, cur, rfl, hb, (hk g rfl).trans hgg, rest⟩
/-- The types of nodes. -/
def axsOf (pre : List NEl) : List (List UInt8) := pre.flatMap fun x => axOne x.2
theorem axsOf_snoc (pre : List NEl) (x : NEl) : axsOf (pre ++ [x]) = axsOf pre ++ axOne x.2 := by simp [axsOf]
theorem axOne_no {t : Tr} (h : t.pw ≠ sAx) : axOne t = [] := by
  obtain ⟨a, ps⟩ := t
  cases ps with
  | nil => rfl
  | cons p r => exact if_neg h
/-- What holds from round to round: the list so far, in its box. -/
structure DtI (n₀ : Nat) (w0 : World) (pre : List NEl) (W : World) : Prop where
  ex : ∃ v, Boxed W n₀ 22 v ∧ W.ownsRow (n₀ + 4) 9 1 v (axsOf pre).length ((axsOf pre).map strV)
  below : Below n₀ w0 W
  few : (axsOf pre).length ≤ pre.length
theorem DtI.steady {n₀ : Nat} {w0 : World} {pre : List NEl} {W W' : World} (h : DtI n₀ w0 pre W) (hs : Steady (n₀ + 2) W W') : DtI n₀ w0 pre W' := by
  obtain ⟨v, hb, hr⟩ := h.ex
  refine ⟨⟨v, (hs.below.block _ (by omega)).trans hb, own_keep hr fun k hk => ?_⟩, h.below.trans (hs.below.mono (by omega)), h.few⟩
  have := hr.lt k hk
  exact hs.same k this.2 (by omega) (by omega)
/-- Nothing has turned but a box and a row. -/
structure Chg (n₀ : Nat) (row : Option Nat) (W W' : World) : Prop where
  below : Below n₀ W W'
  same : ∀ q, q < W.heap.size → q ≠ n₀ → some q ≠ row → W'.heap[q]? = W.heap[q]?
  size : W.heap.size ≤ W'.heap.size
theorem Chg.drew (n₀ : Nat) (row : Option Nat) (W : World) : Chg n₀ row W W.drew := ⟨(Below.refl _ _).drew, fun _ _ _ _ => rfl, Nat.le_refl _⟩
theorem Chg.alloc {n₀ : Nat} {row : Option Nat} {W W' : World} (h : Chg n₀ row W W') (o : Obj) (hn : n₀ ≤ W'.heap.size := by omega) : Chg n₀ row W (W'.alloc o) :=
  ⟨h.below.alloc hn o, fun q h1 h2 h3 => (Below.heap_alloc _ _ _ (by have := h.size; omega)).trans (h.same q h1 h2 h3), by have := h.size; simp; omega⟩
theorem Chg.grown {n₀ : Nat} {row : Option Nat} {W W' W2 : World} (h : Chg n₀ row W W') (hg : W'.grownBy W2 row) (hr : ∀ k, row = some k → n₀ ≤ k) (hn : n₀ ≤ W'.heap.size := by omega) : Chg n₀ row W W2 :=
  ⟨h.below.grown hg hn hr, fun q h1 h2 h3 => (hg.block q (by have := h.size; omega) h3).trans (h.same q h1 h2 h3), Nat.le_trans h.size hg.size⟩
theorem Chg.finish {n₀ : Nat} {A A3 : Option Addr} {L c c3 D : Nat} {w0 W w3 : World} {pre : List NEl} {x : NEl} {y : List UInt8} (h : Chg n₀ (Value.slice A L c).ownBlock W w3) (hb : Boxed w3 n₀ 22 (.slice A L c)) (ho : w3.ownsRow (n₀ + 4) 9 1 (.slice A3 (L + 1) c3) (L + 1) ((axsOf pre).map strV ++ [.string ⟨y.toArray⟩]))
    (hI : DtI n₀ w0 pre W) (hL : (axsOf pre).length = L) (hx : axOne x.2 = [y]) (hD : D = n₀ + 2) (hz : n₀ + 4 ≤ W.heap.size) (hrow : W.ownsRow (n₀ + 4) 9 1 (.slice A L c) L ((axsOf pre).map strV)) :
    Ends D W (w3.setCell ⟨n₀, 0, none⟩ (.slice A3 (L + 1) c3)) ∧ Mid dnT n₀ (D + 2) W (w3.setCell ⟨n₀, 0, none⟩ (.slice A3 (L + 1) c3)) ∧ DtI n₀ w0 (pre ++ [x]) (w3.setCell ⟨n₀, 0, none⟩ (.slice A3 (L + 1) c3)) := by
  subst hD
  have hr : ∀ k, (Value.slice A L c).ownBlock = some k → n₀ + 4 ≤ k := fun k e => (hrow.lt k e).1
  have hsame : ∀ q, q < W.heap.size → q ≠ n₀ → some q ≠ (Value.slice A L c).ownBlock → (w3.setCell ⟨n₀, 0, none⟩ (.slice A3 (L + 1) c3)).heap[q]? = W.heap[q]? := fun q h1 h2 h3 => (nset_far _ _ _ _ _ h2).trans (h.same q h1 h2 h3)
  refine ⟨⟨hsame _ (by omega) (by omega) (fun e => by have := hr _ e.symm; omega), hsame _ (by omega) (by omega) (fun e => by have := hr _ e.symm; omega)⟩, ⟨h.below.setCell (Nat.le_refl _) _, fun q cs t h1 h2 h3 => ?_⟩, ⟨⟨_, hb.set _, ?_⟩, ?_, ?_⟩⟩
  · refine (hsame q (Array.getElem?_eq_some_iff.1 h3).1 (by omega) fun e => ?_).trans h3
    rcases hrow.2 with ⟨hv, _⟩ | ⟨g, cap, cur, hv, _, hg, _⟩
    · injection hv with e1
      rw [e1] at e
      cases e
    · injection hv with e1
      rw [e1] at e
      obtain rfl : q = g := by simpa [Value.ownBlock] using e
      rw [hg] at h3
      injection h3 with h3
      injection h3 with _ h4
      unfold dnT at h2
      rw [← h4] at h2
      exact absurd h2 (by decide)
  · have e : axsOf (pre ++ [x]) = axsOf pre ++ [y] := by rw [axsOf_snoc, hx]
    rw [e, List.length_append, hL, List.map_append]
    exact own_keep ho fun k hk => nset_far _ _ _ _ _ (by have := (ho.lt k hk).1; omega)
  · exact (hI.below.trans h.below).setCell (Nat.le_refl _) _
  · have := hI.few
    rw [axsOf_snoc, hx]
    simp
    omega
theorem DtI.same {n₀ : Nat} {w0 : World} {pre : List NEl} {x : NEl} {W : World} (h : DtI n₀ w0 pre W) (hx : axOne x.2 = []) : DtI n₀ w0 (pre ++ [x]) W := by
  have e : axsOf (pre ++ [x]) = axsOf pre := by rw [axsOf_snoc, hx, List.append_nil]
  obtain ⟨v, hb, hr⟩ := h.ex
  refine ⟨⟨v, hb, ?_⟩, h.below, ?_⟩
  · rw [e]; exact hr
  · rw [e]; have := h.few; simp; omega

set_option maxRecDepth 100000 in
set_option maxHeartbeats 4000000 in
theorem implDeriveTypes_any (x : List UInt8) (s : ByteArray) (w : World) (hm : s.size ≤ maxLen) :
    Calls Tryz.prog 18 #[.string ⟨x.toArray⟩, .string s] w fun e w' => ∃ v, e = .returned (.tuple #[v, .bool (dtR x s.data.toList).isSome]) ∧ SRow w' w.heap.size v ((dtR x s.data.toList).getD []) ∧ Below w.heap.size w w' := by
  obtain ⟨i0, hinf, hz0, hzs, hzb⟩ := info_parts Tryz.infoSx
  refine (callsIn_wide (n := 3)).1 ?_
  refine callsIn_of_wp_marks Tryz.func18 rfl trivial ?_
  simp only [Tryz.ntmps18, List.size_toArray, List.length_cons, List.length_nil, Nat.reduceAdd, Nat.reduceSub, Array.replicate_succ, Array.replicate_zero, List.push_toArray, List.append_toArray, List.nil_append, List.cons_append]
  gi_wp2_with ((try refine ⟨trivial, ?_⟩); (try refine ⟨hdW' _, ?_⟩); gi_at_call 40; refine (callsIn_wide.2 (readDerivation_any x s _ hm)).mono ?_; rintro e wr ⟨hbr, ⟨t, u, hrd, rfl, hu⟩ | ⟨hrd, rfl⟩⟩)
  · obtain ⟨k, hk, hrt, hd, hn⟩ := rdDv_spec _ _ _ hrd
    obtain ⟨T, b, rfl, hb⟩ := hu.shape
    have HR : Hid (dtR x s.data.toList = some (dvA t)) := Lib.hid (by unfold dtR; rw [hrd]; rfl)
    have hN : dvN t ≤ 20000 := by omega
    have hlen := nodes_length t
    have hty := nodes_types t
    have HBR := Lib.hid hbr
    have hzr := hbr.size
    clear hrd hrt hbr hk hd hn
    gi_wp2_with ((try refine ⟨trivial, ?_⟩); (try refine ⟨hdW' _, ?_⟩); gi_at_call 41; refine (callsIn_wide.2 (nodes_any T b _)).mono ?_; rintro e w1 ⟨rfl, rfl⟩)
    have hB0 : Boxed (wr.alloc (.cells #[.slice none 0 0] 22)) wr.heap.size 22 (.slice none 0 0) := Boxed.new _ _ _
    have hW0 : Below wr.heap.size wr (wr.alloc (.cells #[.slice none 0 0] 22)) := (Below.refl _ _).alloc (Nat.le_refl _) _
    have hs0 : (wr.alloc (.cells #[.slice none 0 0] 22)).heap.size = wr.heap.size + 1 := by simp
    generalize wr.alloc (.cells #[.slice none 0 0] 22) = w0 at hB0 hW0 hs0
    have hb1 : (w0.alloc (.cells #[.iface T (.pointer (some ⟨b, 0, none⟩))] 68)).cell? ⟨w0.heap.size, 0, none⟩ = some (.iface T (.pointer (some ⟨b, 0, none⟩))) := (Boxed.new _ _ _).cell
    have hB1 : Boxed (w0.alloc (.cells #[.iface T (.pointer (some ⟨b, 0, none⟩))] 68)) wr.heap.size 22 (.slice none 0 0) := hB0.alloc _
    have hW1 : Below wr.heap.size wr (w0.alloc (.cells #[.iface T (.pointer (some ⟨b, 0, none⟩))] 68)) := hW0.alloc (by omega) _
    have hs1 : (w0.alloc (.cells #[.iface T (.pointer (some ⟨b, 0, none⟩))] 68)).heap.size = wr.heap.size + 2 := by simp [hs0]
    rw [hs0] at hb1
    generalize w0.alloc (.cells #[.iface T (.pointer (some ⟨b, 0, none⟩))] 68) = w1 at hb1 hB1 hW1 hs1
    have hP : ∀ q, (w.heap.size ≤ q ∧ q < wr.heap.size) → q < wr.heap.size := fun q hq => hq.2
    refine wp_rounds (n₀ := wr.heap.size) (tk := dnT) rfl (by omega) (gf := 76) (lb := #[.pointer (some ⟨wr.heap.size + 1, 0, none⟩)]) rfl trivial (enters_of Tryz.func76 (by kernel_rfl) rfl) (by omega)
      (nodes_gives (fun q => w.heap.size ≤ q ∧ q < wr.heap.size) wr.heap.size _ _ (wr.heap.size + 1) b T t w1 (by omega) hb1 (hu.mono fun q hq => ⟨hq, hW1.block q hq.2⟩) hP (by omega) (by omega) hN) (fun _ => rfl)
      (fun pre W => DtI wr.heap.size wr pre W) (fun _ _ _ => False)
      (fun x W W' h hs => h.steady hs hP (by omega)) (fun s W W' h hs => h.steady (by rw [hs1] at hs; exact hs)) (fun _ _ _ _ h _ => h) ⟨⟨_, hB1, World.ownsRow_nil _ _ _ _⟩, hW1, Nat.le_refl _⟩ ?a₁ ?assign ?body ?done ?stop
    case assign =>
      intro l x W K hK
      dsimp only [nelV]
      gi_wp2
      exact hK
    case body =>
      rintro l pre x W hI hx hlen2 hz
      obtain ⟨u, r⟩ := x
      obtain ⟨bu, hbu, hk⟩ := DnAt.kindOf hx
      have HI := Lib.hid hI
      clear hx hI
      rcases hk with ⟨e, hk, a, p, y, hr, hyl, hblk⟩ | ⟨e, hk⟩ | ⟨e, hk⟩ | ⟨e, hk⟩ | ⟨e, hk⟩ | ⟨e, hk⟩
      · dsimp only at e hk hr
        subst e hr
        have ta1 := Tryz.ta_ax_ax
        have hax : axOne (Tr.mk a [p, y]) = [wrTr y] := if_pos hk
        have HAX := Lib.hid hax
        obtain ⟨v, hbx, hrow⟩ := HI.out.ex
        have HROW := Lib.hid hrow
        obtain ⟨A, c, rfl⟩ := own_shape hrow
        have hfew := HI.out.few
        have hcell := hbx.cell
        have hbl := hbu.2
        have hpl : (axsOf pre).length ≤ 20000 := by have := HI.out.few; omega
        obtain ⟨L, hL⟩ : ∃ L, (axsOf pre).length = L := ⟨_, rfl⟩
        have HL := Lib.hid hL
        have HRW : Hid (W.ownsRow (wr.heap.size + 4) 9 1 (.slice A L c) L ((axsOf pre).map strV)) := Lib.hid (by rw [← hL]; exact hrow)
        rw [hL] at hcell hpl
        have hL' : (Value.slice A (axsOf pre).length c) = .slice A L c := by rw [hL]
        have HL' := Lib.hid hL'
        clear hax hrow hk hL hL' hfew
        gi_wp2
        refine wpIn_round_drew (S := fun W' => W'.cell? ⟨bu, 0, none⟩ = some (.string ⟨(wrTr y).toArray⟩)) (by kernel_rfl) (by rintro ⟨a, w, h⟩; exact h) (by kernel_rfl) (by have c := hblk.drew.cell 0; simpa using c) (fun hHeld => ?_)
        have hIb : Blk W.drew bu 78 #[.string ⟨(wrTr y).toArray⟩] := hblk.drew
        have hbd : Boxed W.drew wr.heap.size 22 (.slice A L c) := by have h := hbx; rw [HL'.out] at h; exact h
        have hrd : W.drew.ownsRow (wr.heap.size + 4) 9 1 (.slice A L c) L ((axsOf pre).map strV) := HRW.out
        have hch : Chg wr.heap.size (Value.slice A L c).ownBlock W W.drew := Chg.drew _ _ _
        have hzd : W.heap.size = W.drew.heap.size := rfl
        generalize W.drew = wd at hHeld hIb hbd hrd hch hzd ⊢
        clear hbx hcell hblk
        have d0 := hbd.cell
        refine wpAnyH_take (i := 1) (v := ?_) rfl (by kernel_rfl) (by kernel_rfl) (by kernel_rfl) (fun _ _ _ h => h) (Or.inl ⟨by kernel_rfl, ?_⟩) (by assumption) ?_
        rotate_left
        · intro w0 hS0; (try dsimp only at hS0); go_simp; (try with_reducible rfl)
        (try simp only [List.getElem_toArray, List.getElem_cons_zero]); (try go_frame)
        refine wpAnyH_take (i := 2) (v := ?_) rfl (by kernel_rfl) (by kernel_rfl) (by kernel_rfl) (fun _ _ _ h => h) (Or.inl ⟨by kernel_rfl, ?_⟩) (by assumption) ?_
        rotate_left
        · intro w0 hS0; (try dsimp only at hS0); go_simp; (try with_reducible rfl)
        (try simp only [List.getElem_toArray, List.getElem_cons_zero, List.getElem_cons_succ]); (try go_frame)
        refine wpAnyH_take (i := 3) (v := ?_) rfl (by kernel_rfl) (by kernel_rfl) (by kernel_rfl) (fun _ _ _ h => h) (Or.inl ⟨by kernel_rfl, ?_⟩) (by assumption) ?_
        rotate_left
        · intro w0 hS0; (try dsimp only at hS0); go_simp; (try with_reducible rfl)
        (try simp only [List.getElem_toArray, List.getElem_cons_zero, List.getElem_cons_succ]); (try go_frame)
        refine wpAnyH_take (i := 4) (v := ?_) rfl (by kernel_rfl) (by kernel_rfl) (by kernel_rfl) (fun _ _ _ h => h) (Or.inl ⟨by kernel_rfl, ?_⟩) (by assumption) ?_
        rotate_left
        · intro w0 hS0; (try dsimp only at hS0); go_simp; (try with_reducible rfl)
        (try simp only [List.getElem_toArray, List.getElem_cons_zero, List.getElem_cons_succ]); (try go_frame)
        refine wpAnyH_ready (rs := [0, 5]) (by kernel_rfl) (by simp) ?_
        refine AllReadyH.cons rfl (fun K hK => ?_) (AllReadyH.cons rfl (fun K hK => ?_) AllReadyH.nil)
        · go_simp
          refine hK.out _ _ hHeld (fun hHeld => ?_)
          clear hK K
          (try simp only [List.getElem_toArray, List.getElem_cons_zero, List.getElem_cons_succ]); (try go_frame)
          refine wpAnyH_ready (rs := [5]) (by kernel_rfl) (by simp) ?_
          refine AllReadyH.cons rfl (fun K hK => ?_) AllReadyH.nil
          go_simp
          have hHeld2 : (wd.alloc (.cells #[.string ⟨(wrTr y).toArray⟩] 9)).cell? ⟨bu, 0, none⟩ = some (.string ⟨(wrTr y).toArray⟩) := by have c := (hIb.alloc (.cells #[.string ⟨(wrTr y).toArray⟩] 9)).cell 0; simpa using c
          have hIb2 := hIb.alloc (.cells #[.string ⟨(wrTr y).toArray⟩] 9)
          have hbd2 := hbd.alloc (.cells #[.string ⟨(wrTr y).toArray⟩] 9)
          have hrd2 := hrd.alloc (.cells #[.string ⟨(wrTr y).toArray⟩] 9)
          have hch2 := hch.alloc (.cells #[.string ⟨(wrTr y).toArray⟩] 9)
          have hce2 := cell_one_new wd (.string ⟨(wrTr y).toArray⟩) 9
          have hz2 : W.heap.size < (wd.alloc (.cells #[.string ⟨(wrTr y).toArray⟩] 9)).heap.size := by simp; omega
          generalize wd.alloc (.cells #[.string ⟨(wrTr y).toArray⟩] 9) = wa at hHeld2 hIb2 hbd2 hrd2 hch2 hce2 hz2 ⊢
          refine hK.out _ _ hHeld2 (fun hHeld => ?_)
          clear hK K
          (try simp only [List.getElem_toArray, List.getElem_cons_zero, List.getElem_cons_succ]); (try go_frame)
          refine wpAnyH_ready (rs := [6]) (by kernel_rfl) (by simp) ?_
          refine AllReadyH.cons rfl (fun K hK => ?_) AllReadyH.nil
          rw [if_pos (by kernel_rfl)]
          refine wp_append_own _ (.tmp 29) (.tmp 34) 22 rfl (wr.heap.size + 4) 9 i0 (.string ⟨#[]⟩) 1 16 Tryz.underlying22 hinf hz0 hzs hzb rfl (by decide) (.slice A L c) L ((axsOf pre).map strV) rfl hrd2 ⟨wd.heap.size, 0, none⟩ 1 1 [.string ⟨(wrTr y).toArray⟩] rfl rfl hce2 (fun z hz => by simp at hz; subst hz; rfl) (by unfold maxLen; omega) (by omega) (by omega) ?_
          intro v3 w3 hown3 hg3 _
          have hz3 := hg3.size
          have hne3 : some wr.heap.size ≠ (Value.slice A L c).ownBlock := fun e => by have := (hrd2.lt _ e.symm).1; omega
          have hneb : some bu ≠ (Value.slice A L c).ownBlock := fun e => by have := (hrd2.lt _ e.symm).1; omega
          have hbd3 : Boxed w3 wr.heap.size 22 (.slice A L c) := (hg3.block _ (by omega) hne3).trans hbd2
          have hIb3 := hIb2.grown hg3 hneb
          have hch3 := hch2.grown hg3 (fun k e => by have := hrd2.lt _ e; omega)
          have hHeld3 : w3.cell? ⟨bu, 0, none⟩ = some (.string ⟨(wrTr y).toArray⟩) := by have c := hIb3.cell 0; simpa using c
          have HO3 := Lib.hid hown3
          obtain ⟨A3, c3, rfl⟩ := own_shape hown3
          clear hown3 hg3
          refine hK.out _ _ hHeld3 (fun hHeld => ?_)
          clear hK K
          (try simp only [List.getElem_toArray, List.getElem_cons_zero, List.getElem_cons_succ]); (try go_frame)
          refine wpAnyH_ready (rs := [7]) (by kernel_rfl) (by simp) ?_
          refine AllReadyH.cons rfl (fun K hK => ?_) AllReadyH.nil
          have d3 := hbd3.cell
          have f3 := hbd3.frozen
          have hHeld4 : (w3.setCell ⟨wr.heap.size, 0, none⟩ (.slice A3 (L + 1) c3)).cell? ⟨bu, 0, none⟩ = some (.string ⟨(wrTr y).toArray⟩) := by rw [World.cell?_setCell_other _ _ _ _ (by intro z; injection z with z; omega)]; exact hHeld3
          go_simp
          refine hK.out _ _ hHeld4 (fun hHeld => ?_)
          clear hK K
          refine wpAnyH_done (by kernel_rfl) ?_ _
          gi_wp2
          exact hch3.finish hbd3 HO3.out HI.out HL.out HAX.out (by omega) (by omega) HRW.out
        · go_simp
          have hHeld2 : (wd.alloc (.cells #[.string ⟨(wrTr y).toArray⟩] 9)).cell? ⟨bu, 0, none⟩ = some (.string ⟨(wrTr y).toArray⟩) := by have c := (hIb.alloc (.cells #[.string ⟨(wrTr y).toArray⟩] 9)).cell 0; simpa using c
          have hIb2 := hIb.alloc (.cells #[.string ⟨(wrTr y).toArray⟩] 9)
          have hbd2 := hbd.alloc (.cells #[.string ⟨(wrTr y).toArray⟩] 9)
          have hrd2 := hrd.alloc (.cells #[.string ⟨(wrTr y).toArray⟩] 9)
          have hch2 := hch.alloc (.cells #[.string ⟨(wrTr y).toArray⟩] 9)
          have hce2 := cell_one_new wd (.string ⟨(wrTr y).toArray⟩) 9
          have hz2 : W.heap.size < (wd.alloc (.cells #[.string ⟨(wrTr y).toArray⟩] 9)).heap.size := by simp; omega
          generalize wd.alloc (.cells #[.string ⟨(wrTr y).toArray⟩] 9) = wa at hHeld2 hIb2 hbd2 hrd2 hch2 hce2 hz2 ⊢
          refine hK.out _ _ hHeld2 (fun hHeld => ?_)
          clear hK K
          (try simp only [List.getElem_toArray, List.getElem_cons_zero, List.getElem_cons_succ]); (try go_frame)
          refine wpAnyH_ready (rs := [0]) (by kernel_rfl) (by simp) ?_
          refine AllReadyH.cons rfl (fun K hK => ?_) AllReadyH.nil
          have d0 := hbd2.cell
          go_simp
          refine hK.out _ _ hHeld2 (fun hHeld => ?_)
          clear hK K
          (try simp only [List.getElem_toArray, List.getElem_cons_zero, List.getElem_cons_succ]); (try go_frame)
          refine wpAnyH_ready (rs := [6]) (by kernel_rfl) (by simp) ?_
          refine AllReadyH.cons rfl (fun K hK => ?_) AllReadyH.nil
          rw [if_pos (by kernel_rfl)]
          refine wp_append_own _ (.tmp 29) (.tmp 34) 22 rfl (wr.heap.size + 4) 9 i0 (.string ⟨#[]⟩) 1 16 Tryz.underlying22 hinf hz0 hzs hzb rfl (by decide) (.slice A L c) L ((axsOf pre).map strV) rfl hrd2 ⟨wd.heap.size, 0, none⟩ 1 1 [.string ⟨(wrTr y).toArray⟩] rfl rfl hce2 (fun z hz => by simp at hz; subst hz; rfl) (by unfold maxLen; omega) (by omega) (by omega) ?_
          intro v3 w3 hown3 hg3 _
          have hz3 := hg3.size
          have hne3 : some wr.heap.size ≠ (Value.slice A L c).ownBlock := fun e => by have := (hrd2.lt _ e.symm).1; omega
          have hneb : some bu ≠ (Value.slice A L c).ownBlock := fun e => by have := (hrd2.lt _ e.symm).1; omega
          have hbd3 : Boxed w3 wr.heap.size 22 (.slice A L c) := (hg3.block _ (by omega) hne3).trans hbd2
          have hIb3 := hIb2.grown hg3 hneb
          have hch3 := hch2.grown hg3 (fun k e => by have := hrd2.lt _ e; omega)
          have hHeld3 : w3.cell? ⟨bu, 0, none⟩ = some (.string ⟨(wrTr y).toArray⟩) := by have c := hIb3.cell 0; simpa using c
          have HO3 := Lib.hid hown3
          obtain ⟨A3, c3, rfl⟩ := own_shape hown3
          clear hown3 hg3
          refine hK.out _ _ hHeld3 (fun hHeld => ?_)
          clear hK K
          (try simp only [List.getElem_toArray, List.getElem_cons_zero, List.getElem_cons_succ]); (try go_frame)
          refine wpAnyH_ready (rs := [7]) (by kernel_rfl) (by simp) ?_
          refine AllReadyH.cons rfl (fun K hK => ?_) AllReadyH.nil
          have d3 := hbd3.cell
          have f3 := hbd3.frozen
          have hHeld4 : (w3.setCell ⟨wr.heap.size, 0, none⟩ (.slice A3 (L + 1) c3)).cell? ⟨bu, 0, none⟩ = some (.string ⟨(wrTr y).toArray⟩) := by rw [World.cell?_setCell_other _ _ _ _ (by intro z; injection z with z; omega)]; exact hHeld3
          go_simp
          refine hK.out _ _ hHeld4 (fun hHeld => ?_)
          clear hK K
          refine wpAnyH_done (by kernel_rfl) ?_ _
          gi_wp2
          exact hch3.finish hbd3 HO3.out HI.out HL.out HAX.out (by omega) (by omega) HRW.out
      · dsimp only at e hk
        subst e
        have ta1 := Tryz.ta_fun_ax
        have HAX : Hid (axOne r = []) := Lib.hid (axOne_no (by rw [hk]; decide))
        clear hk
        gi_wp2
        exact ⟨⟨rfl, rfl⟩, Mid.refl _ _ _ _, HI.out.same HAX.out⟩
      · dsimp only at e hk
        subst e
        have ta1 := Tryz.ta_tfun_ax
        have HAX : Hid (axOne r = []) := Lib.hid (axOne_no (by rw [hk]; decide))
        clear hk
        gi_wp2
        exact ⟨⟨rfl, rfl⟩, Mid.refl _ _ _ _, HI.out.same HAX.out⟩
      · dsimp only at e hk
        subst e
        have ta1 := Tryz.ta_hap_ax
        have HAX : Hid (axOne r = []) := Lib.hid (axOne_no (by rw [hk]; decide))
        clear hk
        gi_wp2
        exact ⟨⟨rfl, rfl⟩, Mid.refl _ _ _ _, HI.out.same HAX.out⟩
      · dsimp only at e hk
        subst e
        have ta1 := Tryz.ta_tap_ax
        have HAX : Hid (axOne r = []) := Lib.hid (axOne_no (by rw [hk]; decide))
        clear hk
        gi_wp2
        exact ⟨⟨rfl, rfl⟩, Mid.refl _ _ _ _, HI.out.same HAX.out⟩
      · dsimp only at e hk
        subst e
        have ta1 := Tryz.ta_app_ax
        have HAX : Hid (axOne r = []) := Lib.hid (axOne_no (by rw [hk]; decide))
        clear hk
        gi_wp2
        exact ⟨⟨rfl, rfl⟩, Mid.refl _ _ _ _, HI.out.same HAX.out⟩
    case done =>
      rintro xs W hxs hI hK
      obtain ⟨v, hbx, hrow⟩ := hI.ex
      have hcell := hbx.cell
      have HB := Lib.hid hI.below
      have HROW := Lib.hid hrow
      have HT : Hid (axsOf xs = dvA t) := Lib.hid (by
        rw [← hty, ← hxs]
        unfold axsOf
        rw [List.flatMap_map])
      obtain ⟨A, c, rfl⟩ := own_shape hrow
      clear hrow hI
      gi_wp2
      refine ⟨by simp, .inl ⟨_, _, rfl, run_takeDeferred hK, ?_⟩⟩
      refine ⟨.tuple #[.slice A (axsOf xs).length c, .bool true], by simp [results, Tryz.results18, go_sem], ?_⟩
      refine ⟨_, by rw [HR.out]; rfl, ?_, HBR.out.trans ((HB.out.trans (nbelow_putObj (by omega))).mono hzr)⟩
      rw [HR.out]
      have h := HROW.out
      have hk : (W.putObj w1.heap.size (.deferred none)).ownsRow (wr.heap.size + 4) 9 1 (.slice A (axsOf xs).length c) (axsOf xs).length ((axsOf xs).map strV) := own_keep h fun k hk => by
        have := h.lt k hk
        exact World.putObj_heap_other (by omega)
      rw [HT.out] at hk ⊢
      exact row_low' hk (by omega)
    case stop =>
      intro c pre W _ h _
      exact h.elim
  · have HR : Hid (dtR x s.data.toList = none) := Lib.hid (by unfold dtR; rw [hrd]; rfl)
    clear hrd
    gi_wp2
    exact ⟨.tuple #[.slice none 0 0, .bool false], by simp [results, Tryz.results18, go_sem], _, by rw [HR.out]; rfl, by rw [HR.out]; exact World.ownsRow_nil _ _ _ _, hbr⟩
end Go.Proofs.YtnnnphammfeemaaGreat

