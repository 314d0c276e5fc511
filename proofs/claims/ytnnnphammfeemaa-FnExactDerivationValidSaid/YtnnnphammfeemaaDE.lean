/- The program makes derivations of what was read. -/
import Derived.Test.YtnnnphammfeemaaNE
import Derived.Test.YtnnnphammfeemaaPG
import Derived.Test.YtnnnphammfeemaaPC
namespace Go.Proofs.Ytnnnphammfeemaa
set_option linter.unusedVariables false
set_option linter.unusedSimpArgs false
open Go.RowKit

/-- What making a derivation answers. -/
def DoPost (k : Bool) (t : Tr) (w : World) (e : Ending) (w' : World) : Prop :=
  Below w.heap.size w w' ∧ ((isDv k t = true ∧ ∃ u, e = .returned (.tuple #[u, .bool true]) ∧ DnAt w' (fun b => w.heap.size ≤ b ∧ b < w'.heap.size) t u) ∨ (isDv k t = false ∧ e = .returned (.tuple #[.nilIface, .bool false])))
def DoSaid (k : Bool) (t : Tr) : Prop := ∀ (v : Value) (w : World) (P : Nat → Prop), PAt w P t v → (∀ b, P b → b < w.heap.size) → Wf t → (wrTr t).length ≤ 8000 → trAtoms t ≤ 10000 →
  Calls Try.prog 18 #[v, .string ⟨(kindT k).toArray⟩] w (DoPost k t w)
/-- What making an ax answers. -/
def AxPost (r : List Tr) (w : World) (e : Ending) (w' : World) : Prop :=
  Below w.heap.size w w' ∧ ((axL r = true ∧ ∃ u t, r = [t] ∧ u < w'.heap.size ∧ w.heap.size ≤ u ∧ e = .returned (.tuple #[.iface 70 (.pointer (some ⟨u, 0, none⟩)), .bool true]) ∧ (wrTr t).length ≤ 8000 ∧ Blk w' u 72 #[.string ⟨(wrTr t).toArray⟩]) ∨
    (axL r = false ∧ e = .returned (.tuple #[.nilIface, .bool false])))

set_option maxRecDepth 100000 in
theorem axOf_no (p : Tr) (r : List Tr) (hr : r.length ≠ 1) (v : Value) (w : World) (P : Nat → Prop) (ht : PAt w P (.mk [] (p :: r)) v) (hP : ∀ b, P b → b < w.heap.size) :
    Calls Try.prog 26 #[v] w (AxPost r w) := by
  obtain ⟨b, vp, rfl, hPb, k0, k1, hle, hle2, hv⟩ := ht.form
  rcases hv with ⟨h0, _⟩ | ⟨_, g, cap, xs, rfl, hcap, hPg, hc, hq⟩
  · cases h0
  have HX : Hid (axL r = false) := Lib.hid (by
    match r, hr with
    | [], _ => rfl
    | [t], h => simp at h
    | _ :: _ :: _, _ => rfl)
  have hlen : (((p :: r).length : Int) != 2) = true := bne_iff_ne.2 (by simp; omega)
  have hpos : 0 < (p :: r).length := by simp
  generalize (p :: r).length = N at hlen hpos hcap hle2 k1
  clear ht hP hc hq hr
  go_enter Try.func26, Try.ntmps26
  go_wp2_with fail
  go_ret2
  exact ⟨Below.refl _ _, .inr ⟨HX.out, rfl⟩⟩

set_option maxRecDepth 100000 in
theorem axOf_one (p u : Tr) (v : Value) (w : World) (P : Nat → Prop) (ht : PAt w P (.mk [] [p, u]) v) (hP : ∀ b, P b → b < w.heap.size) (hw : Wf u) (hl : (wrTr u).length ≤ 8000) (ha : trAtoms u ≤ 10000) :
    Calls Try.prog 26 #[v] w (AxPost [u] w) := by
  obtain ⟨b, vp, rfl, hPb, k0, k1, hle, hle2, hv⟩ := ht.form
  rcases hv with ⟨h0, _⟩ | ⟨_, g, cap, xs, rfl, hcap, hPg, hc, hq⟩
  · cases h0
  obtain ⟨x1, e1, q1⟩ := hq.at_ 1 u rfl
  obtain ⟨bu, rfl, hbu⟩ := q1.shape
  have c1 := hc _ _ e1
  have CA := Lib.hid (countAtoms_any u _ w P q1 ha)
  have CT := Lib.hid ((tf_bf_any u).1 _ w P q1 hP hw hl)
  have HX : Hid (axL [u] = (isTy u && decide (trAtoms u ≤ 200))) := Lib.hid rfl
  obtain ⟨m, hm⟩ : ∃ m, trAtoms u = m := ⟨_, rfl⟩
  rw [hm] at CA HX ha
  have hcap' : 2 ≤ cap := by simpa using hcap
  simp only [List.length_cons, List.length_nil] at k1
  clear ht hP hc hq hm q1 e1 hcap hle2
  by_cases hgt : m ≤ 200
  · have hb : decide ((200 : Int) < (m : Int)) = false := decide_eq_false (by omega)
    go_enter Try.func26, Try.ntmps26
    go_wp2_with fail
    refine CA.out.mono ?_
    rintro e w1 ⟨rfl, rfl⟩
    go_wp2_with fail
    refine CT.out.mono ?_
    rintro e w2 ⟨hb2, ⟨hty, rfl⟩ | ⟨hty, rfl⟩⟩
    · have HB2 := Lib.hid hb2
      have hz2 := hb2.size
      have HT := Lib.hid hty
      clear hb2 hty
      go_wp2_with fail
      go_ret2
      exact ⟨HB2.out.alloc hz2 _, .inl ⟨by rw [HX.out, HT.out, decide_eq_true hgt]; rfl, w2.heap.size, u, rfl, by simp, hz2, rfl, hl, Blk.new _ _ _⟩⟩
    · have HB2 := Lib.hid hb2
      have HT := Lib.hid hty
      clear hb2 hty
      go_wp2_with fail
      go_ret2
      exact ⟨HB2.out, .inr ⟨by rw [HX.out, HT.out]; rfl, rfl⟩⟩
  · have hb : decide ((200 : Int) < (m : Int)) = true := decide_eq_true (by omega)
    have HF : Hid (decide (m ≤ 200) = false) := Lib.hid (decide_eq_false hgt)
    clear CT
    go_enter Try.func26, Try.ntmps26
    go_wp2_with fail
    refine CA.out.mono ?_
    rintro e w1 ⟨rfl, rfl⟩
    go_wp2_with fail
    go_ret2
    exact ⟨Below.refl _ _, .inr ⟨by rw [HX.out, HF.out]; simp, rfl⟩⟩
theorem axOf_any (p : Tr) (r : List Tr) (v : Value) (w : World) (P : Nat → Prop) (ht : PAt w P (.mk [] (p :: r)) v) (hP : ∀ b, P b → b < w.heap.size) (hw : ∀ u ∈ r, Wf u) (hl : ∀ u ∈ r, (wrTr u).length ≤ 8000) (ha : ∀ u ∈ r, trAtoms u ≤ 10000) :
    Calls Try.prog 26 #[v] w (AxPost r w) := by
  by_cases hr : r.length = 1
  · match r, hr with
    | [u], _ => exact axOf_one p u v w P ht hP (hw u (by simp)) (hl u (by simp)) (ha u (by simp))
  · exact axOf_no p r hr v w P ht hP
theorem Try.infoDn : (Try.prog.info? 30).map (fun i => (i.zero, i.size, i.bytes)) = some (some .nilIface, 1, 16) := by kernel_rfl
theorem isDvs_next' (k : Bool) (r : List Tr) (j : Nat) (t : Tr) (h : r[j]? = some t) : isDvs k (r.drop j) = (isDv k t && isDvs k (r.drop (j + 1))) := by
  obtain ⟨hj, e⟩ := List.getElem?_eq_some_iff.1 h
  rw [List.drop_eq_getElem_cons hj, e]
  rfl
theorem dv_take_next (r : List Tr) (k : Nat) (t : Tr) (h : r[k]? = some t) : r.take (k + 1) = r.take k ++ [t] := by
  rw [List.take_add_one, h]; rfl
/-- What the walk over the derivations of a node knows of them. -/
structure DoIn (w : World) (P : Nat → Prop) (g N : Nat) (r : List Tr) (xs : List Value) : Prop where
  cells : ∀ j u, xs[j]? = some u → w.cell? ⟨g, j + 1, none⟩ = some u
  trees : QAt w P r xs
  wf : ∀ t ∈ r, Wf t
  short : ∀ t ∈ r, (wrTr t).length ≤ 8000
  few : ∀ t ∈ r, trAtoms t ≤ 10000
  len : r.length = N
/-- The derivations that were made, in memory. -/
structure DoRun (w : World) (r : List Tr) (j : Nat) (vp : Value) (xs : List Value) (wr : World) : Prop where
  own : wr.ownsRow w.heap.size 30 1 vp j xs
  trees : DnS wr (fun b => w.heap.size ≤ b ∧ b < wr.heap.size ∧ some b ≠ vp.ownBlock) (r.take j) xs
  below : Below w.heap.size w wr
theorem DoRun.more {w wr w2 : World} {r : List Tr} {j : Nat} {vp : Value} {xs : List Value} (h : DoRun w r j vp xs wr) (hb : Below wr.heap.size wr w2) : DoRun w r j vp xs w2 where
  own := h.own.kept (grown_of_below hb none) (by cases hv : vp.ownBlock <;> simp)
  trees := h.trees.mono fun b ⟨h1, h2, h3⟩ => ⟨⟨h1, by have := hb.size; omega, h3⟩, hb.block b h2⟩
  below := h.below.trans (hb.mono h.below.size)
theorem DoRun.step {w wr w1 w2 : World} {r : List Tr} {j : Nat} {vp v2 : Value} {xs : List Value} {t : Tr} {u : Value} {o1 : Obj} (h : DoRun w r j vp xs wr) (hb : Below wr.heap.size wr w1) (ht : DnAt w1 (fun b => wr.heap.size ≤ b ∧ b < w1.heap.size) t u) (hj : r[j]? = some t)
    (hown : w2.ownsRow w.heap.size 30 1 v2 (j + 1) (xs ++ [u])) (hg : (w1.alloc o1).grownBy w2 vp.ownBlock) (hat : v2.ownBlock = vp.ownBlock ∨ v2.ownBlock = some (w1.alloc o1).heap.size) : DoRun w r (j + 1) v2 (xs ++ [u]) w2 := by
  have h1 := h.more hb
  have hlt := h.own.lt
  have hz1 := hb.size
  have hz2 := hg.size
  have hz0 := h.below.size
  simp only [World.size_alloc] at hz2 hat
  have hblk : ∀ b, b < w1.heap.size → some b ≠ vp.ownBlock → w2.heap[b]? = w1.heap[b]? := fun b h1 h2 => (hg.block b (by simp; omega) h2).trans (Below.heap_alloc _ _ _ h1)
  have hne : ∀ b, b < w1.heap.size → some b ≠ vp.ownBlock → some b ≠ v2.ownBlock := fun b h1 h2 => by
    rcases hat with h | h
    · rw [h]; exact h2
    · rw [h]; intro e; injection e with e; omega
  refine ⟨hown, ?_, ?_⟩
  · rw [dv_take_next r j t hj]
    refine (h.trees.mono fun b ⟨q1, q2, q3⟩ => ⟨⟨q1, by omega, hne b (by omega) q3⟩, (hblk b (by omega) q3).trans (hb.block b q2)⟩).snoc (ht.mono fun b ⟨q1, q2⟩ => ?_)
    have hn : some b ≠ vp.ownBlock := fun e => by have := hlt b e.symm; omega
    exact ⟨⟨by omega, by omega, hne b q2 hn⟩, hblk b q2 hn⟩
  · exact ((h.below.trans (hb.mono hz0)).alloc (by omega) o1).grown hg (by simp; omega) (fun q e => (hlt q e).1)

set_option maxRecDepth 100000 in
set_option maxHeartbeats 2000000 in
theorem derivationOf_node (k : Bool) (pa : List UInt8) (pq r : List Tr) (hpa : pa ≠ sAx) (hr : r ≠ []) (ih : ∀ u ∈ r, DoSaid k u) : DoSaid k (.mk [] (.mk pa pq :: r)) := by
  intro v w P ht hP hw hl ha
  obtain ⟨b, vp, rfl, hPb, k0, k1, hle, hle2, hv⟩ := ht.form
  rcases hv with ⟨h0, _⟩ | ⟨_, g, cap, xs, rfl, hcap, hPg, hc, hq⟩
  · cases h0
  obtain ⟨x0, e0, q0⟩ := hq.at_ 0 _ rfl
  obtain ⟨b0, rfl, hb0⟩ := q0.shape
  obtain ⟨b0', _, e, _, hk0, _, hpl, _⟩ := q0.form
  obtain rfl : b0 = b0' := by simpa using e
  have c0 := hc _ _ e0
  obtain ⟨hne, hws⟩ := wf_list _ hw
  have hxs : ∃ xs', xs = .pointer (some ⟨b0, 0, none⟩) :: xs' ∧ QAt w P r xs' := by
    unfold QAt at hq
    obtain ⟨x, r', rfl, hx, hr⟩ := hq
    simp at e0
    subst e0
    exact ⟨r', rfl, hr⟩
  obtain ⟨xs', rfl, hqr⟩ := hxs
  obtain ⟨N, hN⟩ : ∃ N, r.length = N := ⟨_, rfl⟩
  have hNp : 0 < N := by rw [← hN]; exact List.length_pos_iff.2 hr
  have HIN : Hid (DoIn w P g N r xs') := Lib.hid ⟨fun j u hu => hc (j + 1) u (by simpa using hu), hqr, fun t ht => Wfs_mem t _ (List.mem_cons_of_mem _ ht) hws, fun t ht => by have := wrTr_part t (.mk pa pq :: r) (List.mem_cons_of_mem _ ht); omega, fun t ht => by have := trsAtoms_mem t (.mk pa pq :: r) (List.mem_cons_of_mem _ ht); have e : trAtoms (.mk [] (.mk pa pq :: r)) = trsAtoms (.mk pa pq :: r) := (by simp [trAtoms]); omega, hN⟩
  have hlen : (Tr.mk pa pq :: r).length = N + 1 := by simp [hN]
  rw [hlen] at hle2 hcap k1
  have HD : Hid (isDv k (.mk [] (.mk pa pq :: r)) = (ndOk k pa N && isDvs k r)) := Lib.hid (by
    rw [← hN]
    unfold isDv isDvP
    rw [if_pos rfl, if_neg (show ¬ (Tr.mk pa pq).atom = sAx from hpa)]; rfl)
  have hgl := hP g hPg
  have hbl := hP b hPb
  have hb0l := hP b0 hb0
  have HP := Lib.hid hP
  have IH := Lib.hid ih
  have hxb : (pa == [97, 120]) = false := beq_eq_false_iff_ne.2 hpa
  have HPA := Lib.hid hpa
  obtain ⟨i0, hinf, hz0', hzs, hzb'⟩ := info_parts Try.infoDn
  have hlt2 : decide (((N : Nat) : Int) + 1 < 2) = false := decide_eq_false (by omega)
  have hc2 : 1 < cap := by omega
  have hN8 : N ≤ 8000 := by omega
  have HNS := Lib.hid (fun (w : World) (g cap : Nat) (xs : List Value) (h : NoIn w g cap N xs) => nodeOf_any k pa hpl xs N g cap w h)
  clear ht hP ih hc hq hqr e e0 q0 hne hws hw hl ha hlen hN hpa hr
  go_enter Try.func18, Try.ntmps18
  go_wp2_with fail
  go_loopw [7, 39] (fun lv i wr => ∃ (j : Nat) (ys : List Value), j ≤ N ∧ i = .int .i64 j ∧ Hid (isDvs k r = isDvs k (r.drop j)) ∧ Hid (DoRun w r j lv ys wr)) (fun _ i _ => N - (intOf i).toNat)
  case atStart => exact ⟨0, [], by omega, rfl, Lib.hid rfl, Lib.hid ⟨World.ownsRow_nil _ _ _ _, by rw [List.take_zero]; exact DnS.nil, Below.refl _ _⟩⟩
  case round =>
    obtain ⟨j, ys, hj, rfl, HS, HM⟩ := hrel
    obtain ⟨A0, n0, rfl⟩ := own_shape HM.out.own
    have hzw := HM.out.below.size
    by_cases hjN : j < N
    · obtain ⟨t, ht⟩ : ∃ t, r[j]? = some t := ⟨r[j]'(by have := HIN.out.len; omega), by simp⟩
      obtain ⟨x, hx, hxp⟩ := HIN.out.trees.at_ j t ht
      obtain ⟨bt, rfl, hbt⟩ := hxp.shape
      have q0 := (HM.out.below.cell (p := ⟨g, j + 1, none⟩) hgl).trans (HIN.out.cells _ _ hx)
      have htm := List.mem_of_getElem? ht
      have hadd : (⟨g, 1 + j, none⟩ : Addr) = ⟨g, j + 1, none⟩ := by rw [Nat.add_comm]
      have q1 : wr.cell? ⟨g, 1 + j, none⟩ = some (.pointer (some ⟨bt, 0, none⟩)) := by rw [hadd]; exact q0
      have C := Lib.hid (IH.out t htm _ wr P (hxp.below HM.out.below HP.out) (fun b hb => by have := HP.out b hb; omega) (HIN.out.wf t htm) (HIN.out.short t htm) (HIN.out.few t htm))
      have HT := Lib.hid ht
      have HN' := Lib.hid (isDvs_next' k r j t ht)
      clear ht hx hxp htm hadd q0
      go_wp2_with fail
      refine C.out.mono ?_
      rintro e w1 ⟨hb1, ⟨hdv, u, rfl, hu⟩ | ⟨hdv, rfl⟩⟩
      · obtain ⟨T, bu, rfl, _⟩ := hu.shape
        have HU := Lib.hid hu
        have HB1 := Lib.hid hb1
        have hz1 := hb1.size
        have own1 := (HM.out.more hb1).own
        have HDV := Lib.hid hdv
        clear hu hb1 hdv q1
        go_wp2_with (first
          | (at_builtin
             refine wpList_append_own_at _ rfl (.tmp 51) (.tmp 53) 60 rfl w.heap.size 30 i0 .nilIface 1 16 Try.underlying60 hinf hz0' hzs hzb' rfl (by decide) (.slice A0 j n0) j ys rfl (own1.alloc _) ⟨w1.heap.size, 0, none⟩ 1 1 [.iface T (.pointer (some ⟨bu, 0, none⟩))] rfl rfl (cell_one_new _ _ _) ?_ ?_ ?_ ?_ ?_
             · intro z hz
               simp at hz
               subst hz
               rfl
             · unfold maxLen; omega
             · omega
             · simp; omega
             intro v2 w2 hown2 hg2 _ hat2
             have HST := Lib.hid (HM.out.step HB1.out HU.out HT.out hown2 hg2 hat2)
             obtain ⟨A2, n2, rfl⟩ := own_shape hown2)
          | fail)
        go_roundw
        case rel => exact ⟨j + 1, _, by omega, by go_num, Lib.hid (by rw [HS.out, HN'.out, HDV.out]; rfl), HST⟩
        case measure => simp [intOf]; omega
      · have HDV := Lib.hid hdv
        have HB1 := Lib.hid hb1
        clear hdv hb1
        go_wp2_with fail
        go_ret2
        exact ⟨HM.out.below.trans (HB1.out.mono hzw), .inr ⟨by rw [HD.out, HS.out, HN'.out, HDV.out]; simp, rfl⟩⟩
    · obtain rfl : j = N := by omega
      obtain ⟨g1, rfl, hg1, hg2, hcap1, hcell1⟩ : ∃ g1, A0 = some ⟨g1, 0, none⟩ ∧ w.heap.size ≤ g1 ∧ g1 < wr.heap.size ∧ j ≤ n0 ∧ ∀ i u, ys[i]? = some u → wr.cell? ⟨g1, i, none⟩ = some u := by
        rcases HM.out.own.2 with ⟨_, h⟩ | ⟨g', cap', cur, hv', h1, h2, h3, _⟩
        · omega
        · injection hv' with e1 e2 e3
          subst e1
          exact ⟨g', rfl, h1, (Array.getElem?_eq_some_iff.1 h2).1, by omega, fun i u hu => by rw [← add_off]; exact HM.out.own.cells (g := g') rfl i u hu⟩
      have hyl : ys.length = j := by have := HM.out.own.1; omega
      have HYL := Lib.hid hyl
      have HTR : Hid (DnS wr (fun b => w.heap.size ≤ b ∧ b < wr.heap.size) r ys) := Lib.hid (by
        have h := HM.out.trees
        rw [List.take_of_length_le (by have := HIN.out.len; omega)] at h
        exact h.mono fun b ⟨q1, q2, _⟩ => ⟨⟨q1, q2⟩, rfl⟩)
      have HDS : Hid (isDvs k r = true) := Lib.hid (by rw [HS.out, List.drop_of_length_le (by have := HIN.out.len; omega)]; rfl)
      have C := Lib.hid (HNS.out wr g1 n0 ys ⟨hcell1, HTR.out.ifc, hyl, by omega, hcap1, by omega, hg2⟩)
      clear hyl hcell1 HNS
      go_wp2_with fail
      refine C.out.mono ?_
      rintro e w2 ⟨hb2, ⟨hok, u, rfl, hn⟩ | ⟨hok, rfl⟩⟩
      · have HOK := Lib.hid hok
        have HNA := Lib.hid hn
        have HB2 := Lib.hid hb2
        have hz2 := hb2.size
        obtain ⟨T, bu, rfl, _⟩ := hn.shape
        clear hok hn hb2
        go_wp2_with fail
        go_ret2
        refine ⟨HM.out.below.trans (HB2.out.mono hzw), .inl ⟨by rw [HD.out, HDS.out, ← HYL.out, HOK.out]; rfl, _, rfl, ?_⟩⟩
        unfold DnAt DnP
        refine .inr ⟨HPA.out, ys, HTR.out.mono fun b ⟨q1, q2⟩ => ⟨⟨q1, by omega⟩, HB2.out.block b q2⟩, HNA.out.mono fun b hb => ⟨?_, rfl⟩⟩
        rcases hb with rfl | ⟨q1, q2⟩
        · exact ⟨hg1, by omega⟩
        · exact ⟨by omega, q2⟩
      · have HOK := Lib.hid hok
        have HB2 := Lib.hid hb2
        clear hok hb2
        go_wp2_with fail
        go_ret2
        exact ⟨HM.out.below.trans (HB2.out.mono hzw), .inr ⟨by rw [HD.out, ← HYL.out, HOK.out]; rfl, rfl⟩⟩

set_option maxRecDepth 100000 in
theorem derivationOf_short (k : Bool) (a : List UInt8) (ps : List Tr) (h : ps.length < 2) (hd : isDv k (.mk a ps) = false) : DoSaid k (.mk a ps) := by
  intro v w P ht hP hw hl ha
  obtain ⟨b, vp, rfl, hPb, k0, k1, hle, hle2, hv⟩ := ht.form
  obtain ⟨A, n, c, rfl, hn⟩ : ∃ A n c, vp = .slice A n c ∧ n = ps.length := by
    rcases hv with ⟨rfl, rfl⟩ | ⟨_, g, cap, xs, rfl, _⟩
    · exact ⟨_, _, _, rfl, rfl⟩
    · exact ⟨_, _, _, rfl, rfl⟩
  have hlt2 : decide (((n : Nat) : Int) < 2) = true := decide_eq_true (by omega)
  have hn8 : n ≤ 8000 := by omega
  have HD := Lib.hid hd
  clear ht hP hw hl ha hv hd h hn hle2
  go_enter Try.func18, Try.ntmps18
  go_wp2_with fail
  go_ret2
  exact ⟨Below.refl _ _, .inr ⟨HD.out, rfl⟩⟩

set_option maxRecDepth 100000 in
theorem derivationOf_ax (k : Bool) (pq r : List Tr) (hr : r ≠ []) : DoSaid k (.mk [] (.mk [97, 120] pq :: r)) := by
  intro v w P ht hP hw hl ha
  obtain ⟨b, vp, rfl, hPb, k0, k1, hle, hle2, hv⟩ := ht.form
  rcases hv with ⟨h0, _⟩ | ⟨_, g, cap, xs, rfl, hcap, hPg, hc, hq⟩
  · cases h0
  obtain ⟨x0, e0, q0⟩ := hq.at_ 0 _ rfl
  obtain ⟨b0, rfl, hb0⟩ := q0.shape
  obtain ⟨b0', _, e, _, hk0, _, hpl, _⟩ := q0.form
  obtain rfl : b0 = b0' := by simpa using e
  have c0 := hc _ _ e0
  obtain ⟨hne, hws⟩ := wf_list _ hw
  have C := Lib.hid (axOf_any (.mk [97, 120] pq) r _ w P ht hP (fun u hu => Wfs_mem u _ (List.mem_cons_of_mem _ hu) hws) (fun u hu => by have := wrTr_part u (.mk [97, 120] pq :: r) (List.mem_cons_of_mem _ hu); omega)
    (fun u hu => by have := trsAtoms_mem u (.mk [97, 120] pq :: r) (List.mem_cons_of_mem _ hu); have e : trAtoms (.mk [] (.mk [97, 120] pq :: r)) = trsAtoms (.mk [97, 120] pq :: r) := (by simp [trAtoms]); omega))
  have HD : Hid (isDv k (.mk [] (.mk [97, 120] pq :: r)) = axL r) := Lib.hid (by unfold isDv isDvP; rw [if_pos rfl, if_pos (show (Tr.mk [97, 120] pq).atom = sAx from rfl)])
  obtain ⟨N, hN⟩ : ∃ N, (Tr.mk [97, 120] pq :: r).length = N := ⟨_, rfl⟩
  have hN2 : 2 ≤ N := by have := List.length_pos_iff.2 hr; simp at hN; omega
  rw [hN] at hle2 hcap k1
  have hlt2 : decide (((N : Nat) : Int) < 2) = false := decide_eq_false (by omega)
  have hgl := hP g hPg
  have hbl := hP b hPb
  have hb0l := hP b0 hb0
  clear ht hP hc hq e e0 q0 hne hws hw hl ha hN hr
  go_enter Try.func18, Try.ntmps18
  go_wp2_with fail
  refine C.out.mono ?_
  rintro e w1 ⟨hb1, ⟨hok, u, t, rfl, hu1, hu2, rfl, htl, hk⟩ | ⟨hok, rfl⟩⟩
  · have HOK := Lib.hid hok
    have HK := Lib.hid hk
    have HB1 := Lib.hid hb1
    clear hok hk hb1
    go_wp2_with fail
    go_ret2
    refine ⟨HB1.out, .inl ⟨by rw [HD.out, HOK.out], _, rfl, ?_⟩⟩
    unfold DnAt DnP
    exact .inl ⟨rfl, u, t, rfl, rfl, ⟨hu2, hu1⟩, htl, HK.out⟩
  · have HOK := Lib.hid hok
    have HB1 := Lib.hid hb1
    clear hok hb1
    go_wp2_with fail
    go_ret2
    exact ⟨HB1.out, .inr ⟨by rw [HD.out, HOK.out], rfl⟩⟩

theorem derivationOf_any (k : Bool) : ∀ t : Tr, DoSaid k t := by
  intro t
  refine Tr.all (p := DoSaid k) ?_ t
  intro a ps ih
  by_cases ha : a = []
  · subst ha
    match ps, ih with
    | [], _ => exact derivationOf_short k [] [] (by simp) rfl
    | [.mk pa pq], _ =>
      refine derivationOf_short k [] _ (by simp) ?_
      unfold isDv isDvP
      rw [if_pos rfl]
      by_cases hx : (Tr.mk pa pq).atom = sAx
      · rw [if_pos hx]; rfl
      · rw [if_neg hx]
        have : ndOk k (Tr.mk pa pq).atom ([] : List Tr).length = false := by
          unfold ndOk
          repeat' split
          all_goals simp
        rw [this]; rfl
    | .mk pa pq :: u :: r, ih =>
      by_cases hx : pa = sAx
      · subst hx
        exact derivationOf_ax k pq (u :: r) (by simp)
      · exact derivationOf_node k pa pq (u :: r) hx (by simp) fun t ht => ih t (List.mem_cons_of_mem _ ht)
  · intro v w P ht hP hw hl hat
    have hps := wf_atom a ps hw ha
    subst hps
    exact derivationOf_short k a [] (by simp) (by unfold isDv; rw [if_neg ha]) v w P ht hP hw hl hat
end Go.Proofs.Ytnnnphammfeemaa
