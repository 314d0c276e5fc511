/- The nodes of a derivation, one by one: the program's iterator. -/
import Derived.Test.YtnnnphammfeemaaEN
import Derived.Test.YtnnnphammfeemaaRF
import Derived.LoopIn
import Derived.Lib.Hide
namespace Go.Proofs.Ytnnnphammfeemaa
set_option linter.unusedVariables false
set_option linter.unusedSimpArgs false
open Go.RowKit Go.Shelf
attribute [local go_sem] Oper.semAt_some

/-- The cells that are kept: lists of derivations. -/
def dnT (t : TypeId) : Prop := t = 30
theorem DnAt.mid {w w' : World} {P : Nat → Prop} {tk : TypeId → Prop} {n₀ n₁ : Nat} {t : Tr} {v : Value} (h : DnAt w P t v) (hm : Mid tk n₀ n₁ w w') (hP : ∀ b, P b → b < n₀) : DnAt w' P t v :=
  h.mono fun b hb => ⟨hb, hm.below.block b (hP b hb)⟩
/-- What the iterator hands out: a node; the derivation that it stands for. -/
abbrev NEl := Value × Tr
def nelV (x : NEl) : Array Value := #[x.1]
def NElAt (P : Nat → Prop) (x : NEl) (w : World) : Prop := DnAt w P x.2 x.1
def NEachPost (n₀ n₁ : Nat) (J Jx : List NEl → World → Prop) (ts : List Tr) (pre : List NEl) (W : World) (e : Ending) (W' : World) : Prop :=
  (e = .returned (.bool true) ∧ (∃ xs, xs.map Prod.snd = ts ∧ J (pre ++ xs) W') ∧ Mid dnT n₀ n₁ W W') ∨ (e = .returned (.bool false) ∧ ∃ xs, xs.map Prod.snd <+: ts ∧ Jx (pre ++ xs) W')
def NEachSaid (P : Nat → Prop) (n₀ n₁ N l : Nat) (J Jx : List NEl → World → Prop) (t : Tr) : Prop :=
  ∀ (m : Nat) (v : Value) (pre : List NEl) (W : World), DnAt W P t v → J pre W → n₁ ≤ W.heap.size → pre.length + (nodesT t).length ≤ N →
    CallsIn Fence.wide m Try.prog 29 #[v, .func (.yield l) #[] #[]] W (NEachPost n₀ n₁ J Jx (nodesT t) pre W)
theorem hdW' (k : Nat) : Fence.wide.depth.isSome = true → 1 ≤ k := fun h => by cases h
theorem nodesT_node (pa : List UInt8) (pq r : List Tr) : nodesT (.mk [] (.mk pa pq :: r)) = .mk [] (.mk pa pq :: r) :: (if pa = sAx then [] else nodesS r) := by
  rw [nodesT]
  unfold nodesP
  rfl
theorem Try.m_ax (n : Nat) (a : Addr) (w : World) : (method (n + 1) 70 (.pointer (some a)) "loop.example/intersectiontypes/impl.parts").run Try.prog w = .ok (100, .pointer (some a)) w := by kernel_rfl
theorem Try.m_fun (n : Nat) (a : Addr) (w : World) : (method (n + 1) 73 (.pointer (some a)) "loop.example/intersectiontypes/impl.parts").run Try.prog w = .ok (103, .pointer (some a)) w := by kernel_rfl
theorem Try.m_tfun (n : Nat) (a : Addr) (w : World) : (method (n + 1) 76 (.pointer (some a)) "loop.example/intersectiontypes/impl.parts").run Try.prog w = .ok (106, .pointer (some a)) w := by kernel_rfl
theorem Try.m_hap (n : Nat) (a : Addr) (w : World) : (method (n + 1) 81 (.pointer (some a)) "loop.example/intersectiontypes/impl.parts").run Try.prog w = .ok (112, .pointer (some a)) w := by kernel_rfl
theorem Try.m_tap (n : Nat) (a : Addr) (w : World) : (method (n + 1) 84 (.pointer (some a)) "loop.example/intersectiontypes/impl.parts").run Try.prog w = .ok (115, .pointer (some a)) w := by kernel_rfl
theorem Try.m_app (n : Nat) (a : Addr) (w : World) : (method (n + 1) 78 (.pointer (some a)) "loop.example/intersectiontypes/impl.parts").run Try.prog w = .ok (109, .pointer (some a)) w := by kernel_rfl
theorem nodesS_append : ∀ a b : List Tr, nodesS (a ++ b) = nodesS a ++ nodesS b := by
  intro a b
  induction a with
  | nil => simp [nodesS]
  | cons x a ih => simp [nodesS, ih]
theorem nodesS_take (r : List Tr) (j : Nat) (t : Tr) (h : r[j]? = some t) : nodesS (r.take (j + 1)) = nodesS (r.take j) ++ nodesT t := by
  rw [List.take_add_one, h, nodesS_append]
  simp [nodesS]
theorem nodesS_pre (r : List Tr) (j : Nat) : nodesS (r.take j) <+: nodesS r := by
  have h := nodesS_append (r.take j) (r.drop j)
  rw [List.take_append_drop] at h
  exact ⟨_, h.symm⟩
section
variable {P : Nat → Prop} {n₀ n₁ N l : Nat} {J Jx : List NEl → World → Prop}
set_option maxRecDepth 100000 in
set_option maxHeartbeats 2000000 in
theorem eachNode_ax (hY : ∀ (m : Nat) pre x W1, J pre W1 → NElAt P x W1 → pre.length < N → YieldAt Fence.wide m Try.prog l (nelV x) W1 (Yields dnT n₀ n₁ J Jx (pre ++ [x]) W1)) (hP : ∀ b, P b → b < n₀) (hn01 : n₀ ≤ n₁) (hAJ : Abide J)
    (t : Tr) (r : List Tr) (ih : ∀ u ∈ r, NEachSaid P n₀ n₁ N l J Jx u) (xs : List Value) (m : Nat) (b : Nat) (pre : List NEl) (W : World) (hpt : ∀ W1, Mid dnT n₀ n₁ W W1 → Calls Try.prog 100 #[.pointer (some ⟨b, 0, none⟩)] W1 (PtPost xs W1)) (hxs : DnS W P r xs) (h8 : xs.length ≤ 20000)
    (hd : DnAt W P t (.iface 70 (.pointer (some ⟨b, 0, none⟩)))) (hJ : J pre W) (hn : n₁ ≤ W.heap.size) (hN : pre.length + (nodesS r).length < N) :
    CallsIn Fence.wide m Try.prog 29 #[.iface 70 (.pointer (some ⟨b, 0, none⟩)), .func (.yield l) #[] #[]] W (NEachPost n₀ n₁ J Jx (t :: nodesS r) pre W) := by
  have hy : YieldAt Fence.wide (m - 1) Try.prog l #[.iface 70 (.pointer (some ⟨b, 0, none⟩))] W _ := hY (m - 1) pre (.iface 70 (.pointer (some ⟨b, 0, none⟩)), t) W hJ hd (by omega)
  obtain ⟨fn, tmps, assign, body, hy, hR⟩ := hy
  have HPT := Lib.hid hpt
  have HX := Lib.hid hxs
  have HP := Lib.hid hP
  have IH := Lib.hid ih
  have HAJ := Lib.hid hAJ
  have HN := Lib.hid hN
  have HLEN : Hid (xs.length = r.length) := Lib.hid hxs.len
  obtain ⟨n, hnx⟩ : ∃ n, xs.length = n := ⟨_, rfl⟩
  have HNX := Lib.hid hnx
  rw [hnx] at h8
  clear hY hpt hxs hP ih hAJ hd hJ hN hnx
  have hmx := Try.m_ax
  refine callsIn_of_wp Try.func29 rfl trivial ?_
  simp only [Try.ntmps29, List.size_toArray, List.length_cons, List.length_nil, Nat.reduceAdd, Nat.reduceSub, Array.replicate_succ, Array.replicate_zero, List.push_toArray, List.append_toArray, List.nil_append, List.cons_append]
  gi_wp2_with (first
    | ((try refine ⟨hdW' _, ?_⟩); refine hR.mono ?_; clear hR; rintro e W1 (⟨rfl, hJ1, hM1⟩ | ⟨rfl, hJx⟩))
    | ((try refine ⟨trivial, ?_⟩); (try refine ⟨hdW' _, ?_⟩); gi_at_call 100; refine (callsIn_wide.2 (HPT.out W1 hM1)).mono ?_; rintro e W2 ⟨v, rfl, hrow, hb2⟩; rw [HNX.out] at hrow; obtain ⟨A, c, rfl⟩ := own_shape hrow))
  · have hz1 := hM1.below.size
    have hz2 := hb2.size
    have hM2 : Mid dnT n₀ n₁ W W2 := hM1.trans (Mid.fresh (by omega) hb2)
    have HJ2 := Lib.hid (HAJ.out _ _ _ hJ1 hb2)
    rcases hrow.2 with ⟨hv, h0⟩ | ⟨g, cap, cur, hv, hg, hheap, hnc, _, hcs, htk⟩
    · subst h0
      injection hv with e1 e2 e3
      subst e1 e3
      have HR0 : Hid (r = []) := Lib.hid (List.eq_nil_of_length_eq_zero (by have := HLEN.out; have := HNX.out; omega))
      have HM2 := Lib.hid hM2
      clear hrow hJ1 hM1 hb2 hM2
      gi_loopw [14] (fun i wr => i = .int .i64 0 ∧ wr = W2) (fun _ _ => 0)
      case atStart => exact ⟨rfl, rfl⟩
      case round =>
        obtain ⟨rfl, rfl⟩ := hrel
        gi_wp2
        go_ret
        refine .inl ⟨rfl, ⟨[(.iface 70 (.pointer (some ⟨b, 0, none⟩)), t)], ?_, HJ2.out⟩, HM2.out⟩
        rw [HR0.out]
        simp [nodesS]
    · injection hv with e1 e2 e3
      subst e1 e3
      clear e2
      have HBLK : Hid (Blk W2 g 30 cur) := Lib.hid hheap
      have hg1 : n₁ ≤ g := by omega
      have HCUR : Hid (∀ j u, xs[j]? = some u → cur[j]? = some u) := Lib.hid fun j u hu => by
        rw [← htk, List.getElem?_take] at hu
        split at hu
        · simpa using hu
        · cases hu
      have HM2 := Lib.hid hM2
      clear hrow hJ1 hM1 hb2 hM2 hheap hcs htk
      gi_loopw [14] (fun i wr => ∃ (j : Nat) (ys : List NEl), j ≤ n ∧ i = .int .i64 j ∧ Hid (ys.map Prod.snd = nodesS (r.take j)) ∧ Hid (J (pre ++ [(.iface 70 (.pointer (some ⟨b, 0, none⟩)), t)] ++ ys) wr) ∧ Hid (Mid dnT n₀ n₁ W wr) ∧ Hid (Blk wr g 30 cur) ∧ n₁ ≤ wr.heap.size) (fun i _ => n - (intOf i).toNat)
      case atStart => exact ⟨0, [], by omega, rfl, Lib.hid (by simp [nodesS]), Lib.hid (by simpa using HJ2.out), HM2, HBLK, by omega⟩
      case round =>
        obtain ⟨j, ys, hj, rfl, HYS, HJR, HMR, HBR, hnr⟩ := hrel
        by_cases hjn : j < n
        · obtain ⟨u, hu⟩ : ∃ u, xs[j]? = some u := ⟨xs[j]'(by have := HNX.out; omega), by simp⟩
          obtain ⟨tj, htj⟩ : ∃ tj, r[j]? = some tj := ⟨r[j]'(by have := HNX.out; have := HLEN.out; omega), by simp⟩
          obtain ⟨u', hu', hdu⟩ := HX.out.at_ j tj htj
          obtain rfl : u = u' := by rw [hu] at hu'; injection hu'
          obtain ⟨T', b', rfl, hb'⟩ := hdu.shape
          have c0 := HBR.out.cell j
          rw [HCUR.out j _ hu] at c0
          have htk := nodesS_take r j tj htj
          have hpre := nodesS_pre r (j + 1)
          have hyl : ys.length = (nodesS (r.take j)).length := by rw [← HYS.out]; simp
          have hlen : (nodesS (r.take j)).length + (nodesT tj).length ≤ (nodesS r).length := by have := hpre.length_le; rw [htk, List.length_append] at this; exact this
          have C := Lib.hid (IH.out tj (List.mem_of_getElem? htj) (m - 1) _ (pre ++ [(.iface 70 (.pointer (some ⟨b, 0, none⟩)), t)] ++ ys) wr (hdu.mid HMR.out HP.out) HJR.out hnr (by have := HN.out; simp only [List.length_append, List.length_cons, List.length_nil]; omega))
          have HTK := Lib.hid htk
          have HPRE := Lib.hid hpre
          have hmm : m - 1 = m - 1 := rfl
          clear hu hu' htj hdu htk hpre hyl hlen hb'
          gi_wp2_with (((try refine ⟨trivial, ?_⟩); (try refine ⟨hdW' _, ?_⟩); gi_at_call 29; refine C.out.mono ?_; rintro e W3 (⟨rfl, ⟨zs, hzs, hJ3⟩, hM3⟩ | ⟨rfl, zs, hzs, hJ3⟩)))
          · go_roundw
            case rel => exact ⟨j + 1, ys ++ zs, by omega, by go_num, Lib.hid (by rw [List.map_append, HYS.out, hzs, HTK.out]), Lib.hid (by simpa using hJ3), Lib.hid (HMR.out.trans hM3), Lib.hid (hM3.same g cur _ hg1 rfl HBR.out), by have := hM3.below.size; omega⟩
            case measure => simp [intOf]; omega
          · go_ret
            refine .inr ⟨rfl, (.iface 70 (.pointer (some ⟨b, 0, none⟩)), t) :: (ys ++ zs), ?_, by simpa using hJ3⟩
            rw [List.map_cons, List.map_append, HYS.out]
            refine (List.prefix_cons_inj _).2 (List.IsPrefix.trans ?_ HPRE.out)
            rw [HTK.out]
            exact (List.prefix_append_right_inj _).2 hzs
        · have HF : Hid (nodesS (r.take j) = nodesS r) := Lib.hid (by rw [List.take_of_length_le (by have := HNX.out; have := HLEN.out; omega)])
          gi_wp2
          go_ret
          exact .inl ⟨rfl, ⟨(.iface 70 (.pointer (some ⟨b, 0, none⟩)), t) :: ys, by rw [List.map_cons, HYS.out, HF.out], by simpa using HJR.out⟩, HMR.out⟩
  · go_ret
    exact .inr ⟨rfl, [(.iface 70 (.pointer (some ⟨b, 0, none⟩)), t)], by simp, hJx⟩
set_option maxRecDepth 100000 in
set_option maxHeartbeats 2000000 in
theorem eachNode_fun (hY : ∀ (m : Nat) pre x W1, J pre W1 → NElAt P x W1 → pre.length < N → YieldAt Fence.wide m Try.prog l (nelV x) W1 (Yields dnT n₀ n₁ J Jx (pre ++ [x]) W1)) (hP : ∀ b, P b → b < n₀) (hn01 : n₀ ≤ n₁) (hAJ : Abide J)
    (t : Tr) (r : List Tr) (ih : ∀ u ∈ r, NEachSaid P n₀ n₁ N l J Jx u) (xs : List Value) (m : Nat) (b : Nat) (pre : List NEl) (W : World) (hpt : ∀ W1, Mid dnT n₀ n₁ W W1 → Calls Try.prog 103 #[.pointer (some ⟨b, 0, none⟩)] W1 (PtPost xs W1)) (hxs : DnS W P r xs) (h8 : xs.length ≤ 20000)
    (hd : DnAt W P t (.iface 73 (.pointer (some ⟨b, 0, none⟩)))) (hJ : J pre W) (hn : n₁ ≤ W.heap.size) (hN : pre.length + (nodesS r).length < N) :
    CallsIn Fence.wide m Try.prog 29 #[.iface 73 (.pointer (some ⟨b, 0, none⟩)), .func (.yield l) #[] #[]] W (NEachPost n₀ n₁ J Jx (t :: nodesS r) pre W) := by
  have hy : YieldAt Fence.wide (m - 1) Try.prog l #[.iface 73 (.pointer (some ⟨b, 0, none⟩))] W _ := hY (m - 1) pre (.iface 73 (.pointer (some ⟨b, 0, none⟩)), t) W hJ hd (by omega)
  obtain ⟨fn, tmps, assign, body, hy, hR⟩ := hy
  have HPT := Lib.hid hpt
  have HX := Lib.hid hxs
  have HP := Lib.hid hP
  have IH := Lib.hid ih
  have HAJ := Lib.hid hAJ
  have HN := Lib.hid hN
  have HLEN : Hid (xs.length = r.length) := Lib.hid hxs.len
  obtain ⟨n, hnx⟩ : ∃ n, xs.length = n := ⟨_, rfl⟩
  have HNX := Lib.hid hnx
  rw [hnx] at h8
  clear hY hpt hxs hP ih hAJ hd hJ hN hnx
  have hmx := Try.m_fun
  refine callsIn_of_wp Try.func29 rfl trivial ?_
  simp only [Try.ntmps29, List.size_toArray, List.length_cons, List.length_nil, Nat.reduceAdd, Nat.reduceSub, Array.replicate_succ, Array.replicate_zero, List.push_toArray, List.append_toArray, List.nil_append, List.cons_append]
  gi_wp2_with (first
    | ((try refine ⟨hdW' _, ?_⟩); refine hR.mono ?_; clear hR; rintro e W1 (⟨rfl, hJ1, hM1⟩ | ⟨rfl, hJx⟩))
    | ((try refine ⟨trivial, ?_⟩); (try refine ⟨hdW' _, ?_⟩); gi_at_call 103; refine (callsIn_wide.2 (HPT.out W1 hM1)).mono ?_; rintro e W2 ⟨v, rfl, hrow, hb2⟩; rw [HNX.out] at hrow; obtain ⟨A, c, rfl⟩ := own_shape hrow))
  · have hz1 := hM1.below.size
    have hz2 := hb2.size
    have hM2 : Mid dnT n₀ n₁ W W2 := hM1.trans (Mid.fresh (by omega) hb2)
    have HJ2 := Lib.hid (HAJ.out _ _ _ hJ1 hb2)
    rcases hrow.2 with ⟨hv, h0⟩ | ⟨g, cap, cur, hv, hg, hheap, hnc, _, hcs, htk⟩
    · subst h0
      injection hv with e1 e2 e3
      subst e1 e3
      have HR0 : Hid (r = []) := Lib.hid (List.eq_nil_of_length_eq_zero (by have := HLEN.out; have := HNX.out; omega))
      have HM2 := Lib.hid hM2
      clear hrow hJ1 hM1 hb2 hM2
      gi_loopw [14] (fun i wr => i = .int .i64 0 ∧ wr = W2) (fun _ _ => 0)
      case atStart => exact ⟨rfl, rfl⟩
      case round =>
        obtain ⟨rfl, rfl⟩ := hrel
        gi_wp2
        go_ret
        refine .inl ⟨rfl, ⟨[(.iface 73 (.pointer (some ⟨b, 0, none⟩)), t)], ?_, HJ2.out⟩, HM2.out⟩
        rw [HR0.out]
        simp [nodesS]
    · injection hv with e1 e2 e3
      subst e1 e3
      clear e2
      have HBLK : Hid (Blk W2 g 30 cur) := Lib.hid hheap
      have hg1 : n₁ ≤ g := by omega
      have HCUR : Hid (∀ j u, xs[j]? = some u → cur[j]? = some u) := Lib.hid fun j u hu => by
        rw [← htk, List.getElem?_take] at hu
        split at hu
        · simpa using hu
        · cases hu
      have HM2 := Lib.hid hM2
      clear hrow hJ1 hM1 hb2 hM2 hheap hcs htk
      gi_loopw [14] (fun i wr => ∃ (j : Nat) (ys : List NEl), j ≤ n ∧ i = .int .i64 j ∧ Hid (ys.map Prod.snd = nodesS (r.take j)) ∧ Hid (J (pre ++ [(.iface 73 (.pointer (some ⟨b, 0, none⟩)), t)] ++ ys) wr) ∧ Hid (Mid dnT n₀ n₁ W wr) ∧ Hid (Blk wr g 30 cur) ∧ n₁ ≤ wr.heap.size) (fun i _ => n - (intOf i).toNat)
      case atStart => exact ⟨0, [], by omega, rfl, Lib.hid (by simp [nodesS]), Lib.hid (by simpa using HJ2.out), HM2, HBLK, by omega⟩
      case round =>
        obtain ⟨j, ys, hj, rfl, HYS, HJR, HMR, HBR, hnr⟩ := hrel
        by_cases hjn : j < n
        · obtain ⟨u, hu⟩ : ∃ u, xs[j]? = some u := ⟨xs[j]'(by have := HNX.out; omega), by simp⟩
          obtain ⟨tj, htj⟩ : ∃ tj, r[j]? = some tj := ⟨r[j]'(by have := HNX.out; have := HLEN.out; omega), by simp⟩
          obtain ⟨u', hu', hdu⟩ := HX.out.at_ j tj htj
          obtain rfl : u = u' := by rw [hu] at hu'; injection hu'
          obtain ⟨T', b', rfl, hb'⟩ := hdu.shape
          have c0 := HBR.out.cell j
          rw [HCUR.out j _ hu] at c0
          have htk := nodesS_take r j tj htj
          have hpre := nodesS_pre r (j + 1)
          have hyl : ys.length = (nodesS (r.take j)).length := by rw [← HYS.out]; simp
          have hlen : (nodesS (r.take j)).length + (nodesT tj).length ≤ (nodesS r).length := by have := hpre.length_le; rw [htk, List.length_append] at this; exact this
          have C := Lib.hid (IH.out tj (List.mem_of_getElem? htj) (m - 1) _ (pre ++ [(.iface 73 (.pointer (some ⟨b, 0, none⟩)), t)] ++ ys) wr (hdu.mid HMR.out HP.out) HJR.out hnr (by have := HN.out; simp only [List.length_append, List.length_cons, List.length_nil]; omega))
          have HTK := Lib.hid htk
          have HPRE := Lib.hid hpre
          have hmm : m - 1 = m - 1 := rfl
          clear hu hu' htj hdu htk hpre hyl hlen hb'
          gi_wp2_with (((try refine ⟨trivial, ?_⟩); (try refine ⟨hdW' _, ?_⟩); gi_at_call 29; refine C.out.mono ?_; rintro e W3 (⟨rfl, ⟨zs, hzs, hJ3⟩, hM3⟩ | ⟨rfl, zs, hzs, hJ3⟩)))
          · go_roundw
            case rel => exact ⟨j + 1, ys ++ zs, by omega, by go_num, Lib.hid (by rw [List.map_append, HYS.out, hzs, HTK.out]), Lib.hid (by simpa using hJ3), Lib.hid (HMR.out.trans hM3), Lib.hid (hM3.same g cur _ hg1 rfl HBR.out), by have := hM3.below.size; omega⟩
            case measure => simp [intOf]; omega
          · go_ret
            refine .inr ⟨rfl, (.iface 73 (.pointer (some ⟨b, 0, none⟩)), t) :: (ys ++ zs), ?_, by simpa using hJ3⟩
            rw [List.map_cons, List.map_append, HYS.out]
            refine (List.prefix_cons_inj _).2 (List.IsPrefix.trans ?_ HPRE.out)
            rw [HTK.out]
            exact (List.prefix_append_right_inj _).2 hzs
        · have HF : Hid (nodesS (r.take j) = nodesS r) := Lib.hid (by rw [List.take_of_length_le (by have := HNX.out; have := HLEN.out; omega)])
          gi_wp2
          go_ret
          exact .inl ⟨rfl, ⟨(.iface 73 (.pointer (some ⟨b, 0, none⟩)), t) :: ys, by rw [List.map_cons, HYS.out, HF.out], by simpa using HJR.out⟩, HMR.out⟩
  · go_ret
    exact .inr ⟨rfl, [(.iface 73 (.pointer (some ⟨b, 0, none⟩)), t)], by simp, hJx⟩
set_option maxRecDepth 100000 in
set_option maxHeartbeats 2000000 in
theorem eachNode_tfun (hY : ∀ (m : Nat) pre x W1, J pre W1 → NElAt P x W1 → pre.length < N → YieldAt Fence.wide m Try.prog l (nelV x) W1 (Yields dnT n₀ n₁ J Jx (pre ++ [x]) W1)) (hP : ∀ b, P b → b < n₀) (hn01 : n₀ ≤ n₁) (hAJ : Abide J)
    (t : Tr) (r : List Tr) (ih : ∀ u ∈ r, NEachSaid P n₀ n₁ N l J Jx u) (xs : List Value) (m : Nat) (b : Nat) (pre : List NEl) (W : World) (hpt : ∀ W1, Mid dnT n₀ n₁ W W1 → Calls Try.prog 106 #[.pointer (some ⟨b, 0, none⟩)] W1 (PtPost xs W1)) (hxs : DnS W P r xs) (h8 : xs.length ≤ 20000)
    (hd : DnAt W P t (.iface 76 (.pointer (some ⟨b, 0, none⟩)))) (hJ : J pre W) (hn : n₁ ≤ W.heap.size) (hN : pre.length + (nodesS r).length < N) :
    CallsIn Fence.wide m Try.prog 29 #[.iface 76 (.pointer (some ⟨b, 0, none⟩)), .func (.yield l) #[] #[]] W (NEachPost n₀ n₁ J Jx (t :: nodesS r) pre W) := by
  have hy : YieldAt Fence.wide (m - 1) Try.prog l #[.iface 76 (.pointer (some ⟨b, 0, none⟩))] W _ := hY (m - 1) pre (.iface 76 (.pointer (some ⟨b, 0, none⟩)), t) W hJ hd (by omega)
  obtain ⟨fn, tmps, assign, body, hy, hR⟩ := hy
  have HPT := Lib.hid hpt
  have HX := Lib.hid hxs
  have HP := Lib.hid hP
  have IH := Lib.hid ih
  have HAJ := Lib.hid hAJ
  have HN := Lib.hid hN
  have HLEN : Hid (xs.length = r.length) := Lib.hid hxs.len
  obtain ⟨n, hnx⟩ : ∃ n, xs.length = n := ⟨_, rfl⟩
  have HNX := Lib.hid hnx
  rw [hnx] at h8
  clear hY hpt hxs hP ih hAJ hd hJ hN hnx
  have hmx := Try.m_tfun
  refine callsIn_of_wp Try.func29 rfl trivial ?_
  simp only [Try.ntmps29, List.size_toArray, List.length_cons, List.length_nil, Nat.reduceAdd, Nat.reduceSub, Array.replicate_succ, Array.replicate_zero, List.push_toArray, List.append_toArray, List.nil_append, List.cons_append]
  gi_wp2_with (first
    | ((try refine ⟨hdW' _, ?_⟩); refine hR.mono ?_; clear hR; rintro e W1 (⟨rfl, hJ1, hM1⟩ | ⟨rfl, hJx⟩))
    | ((try refine ⟨trivial, ?_⟩); (try refine ⟨hdW' _, ?_⟩); gi_at_call 106; refine (callsIn_wide.2 (HPT.out W1 hM1)).mono ?_; rintro e W2 ⟨v, rfl, hrow, hb2⟩; rw [HNX.out] at hrow; obtain ⟨A, c, rfl⟩ := own_shape hrow))
  · have hz1 := hM1.below.size
    have hz2 := hb2.size
    have hM2 : Mid dnT n₀ n₁ W W2 := hM1.trans (Mid.fresh (by omega) hb2)
    have HJ2 := Lib.hid (HAJ.out _ _ _ hJ1 hb2)
    rcases hrow.2 with ⟨hv, h0⟩ | ⟨g, cap, cur, hv, hg, hheap, hnc, _, hcs, htk⟩
    · subst h0
      injection hv with e1 e2 e3
      subst e1 e3
      have HR0 : Hid (r = []) := Lib.hid (List.eq_nil_of_length_eq_zero (by have := HLEN.out; have := HNX.out; omega))
      have HM2 := Lib.hid hM2
      clear hrow hJ1 hM1 hb2 hM2
      gi_loopw [14] (fun i wr => i = .int .i64 0 ∧ wr = W2) (fun _ _ => 0)
      case atStart => exact ⟨rfl, rfl⟩
      case round =>
        obtain ⟨rfl, rfl⟩ := hrel
        gi_wp2
        go_ret
        refine .inl ⟨rfl, ⟨[(.iface 76 (.pointer (some ⟨b, 0, none⟩)), t)], ?_, HJ2.out⟩, HM2.out⟩
        rw [HR0.out]
        simp [nodesS]
    · injection hv with e1 e2 e3
      subst e1 e3
      clear e2
      have HBLK : Hid (Blk W2 g 30 cur) := Lib.hid hheap
      have hg1 : n₁ ≤ g := by omega
      have HCUR : Hid (∀ j u, xs[j]? = some u → cur[j]? = some u) := Lib.hid fun j u hu => by
        rw [← htk, List.getElem?_take] at hu
        split at hu
        · simpa using hu
        · cases hu
      have HM2 := Lib.hid hM2
      clear hrow hJ1 hM1 hb2 hM2 hheap hcs htk
      gi_loopw [14] (fun i wr => ∃ (j : Nat) (ys : List NEl), j ≤ n ∧ i = .int .i64 j ∧ Hid (ys.map Prod.snd = nodesS (r.take j)) ∧ Hid (J (pre ++ [(.iface 76 (.pointer (some ⟨b, 0, none⟩)), t)] ++ ys) wr) ∧ Hid (Mid dnT n₀ n₁ W wr) ∧ Hid (Blk wr g 30 cur) ∧ n₁ ≤ wr.heap.size) (fun i _ => n - (intOf i).toNat)
      case atStart => exact ⟨0, [], by omega, rfl, Lib.hid (by simp [nodesS]), Lib.hid (by simpa using HJ2.out), HM2, HBLK, by omega⟩
      case round =>
        obtain ⟨j, ys, hj, rfl, HYS, HJR, HMR, HBR, hnr⟩ := hrel
        by_cases hjn : j < n
        · obtain ⟨u, hu⟩ : ∃ u, xs[j]? = some u := ⟨xs[j]'(by have := HNX.out; omega), by simp⟩
          obtain ⟨tj, htj⟩ : ∃ tj, r[j]? = some tj := ⟨r[j]'(by have := HNX.out; have := HLEN.out; omega), by simp⟩
          obtain ⟨u', hu', hdu⟩ := HX.out.at_ j tj htj
          obtain rfl : u = u' := by rw [hu] at hu'; injection hu'
          obtain ⟨T', b', rfl, hb'⟩ := hdu.shape
          have c0 := HBR.out.cell j
          rw [HCUR.out j _ hu] at c0
          have htk := nodesS_take r j tj htj
          have hpre := nodesS_pre r (j + 1)
          have hyl : ys.length = (nodesS (r.take j)).length := by rw [← HYS.out]; simp
          have hlen : (nodesS (r.take j)).length + (nodesT tj).length ≤ (nodesS r).length := by have := hpre.length_le; rw [htk, List.length_append] at this; exact this
          have C := Lib.hid (IH.out tj (List.mem_of_getElem? htj) (m - 1) _ (pre ++ [(.iface 76 (.pointer (some ⟨b, 0, none⟩)), t)] ++ ys) wr (hdu.mid HMR.out HP.out) HJR.out hnr (by have := HN.out; simp only [List.length_append, List.length_cons, List.length_nil]; omega))
          have HTK := Lib.hid htk
          have HPRE := Lib.hid hpre
          have hmm : m - 1 = m - 1 := rfl
          clear hu hu' htj hdu htk hpre hyl hlen hb'
          gi_wp2_with (((try refine ⟨trivial, ?_⟩); (try refine ⟨hdW' _, ?_⟩); gi_at_call 29; refine C.out.mono ?_; rintro e W3 (⟨rfl, ⟨zs, hzs, hJ3⟩, hM3⟩ | ⟨rfl, zs, hzs, hJ3⟩)))
          · go_roundw
            case rel => exact ⟨j + 1, ys ++ zs, by omega, by go_num, Lib.hid (by rw [List.map_append, HYS.out, hzs, HTK.out]), Lib.hid (by simpa using hJ3), Lib.hid (HMR.out.trans hM3), Lib.hid (hM3.same g cur _ hg1 rfl HBR.out), by have := hM3.below.size; omega⟩
            case measure => simp [intOf]; omega
          · go_ret
            refine .inr ⟨rfl, (.iface 76 (.pointer (some ⟨b, 0, none⟩)), t) :: (ys ++ zs), ?_, by simpa using hJ3⟩
            rw [List.map_cons, List.map_append, HYS.out]
            refine (List.prefix_cons_inj _).2 (List.IsPrefix.trans ?_ HPRE.out)
            rw [HTK.out]
            exact (List.prefix_append_right_inj _).2 hzs
        · have HF : Hid (nodesS (r.take j) = nodesS r) := Lib.hid (by rw [List.take_of_length_le (by have := HNX.out; have := HLEN.out; omega)])
          gi_wp2
          go_ret
          exact .inl ⟨rfl, ⟨(.iface 76 (.pointer (some ⟨b, 0, none⟩)), t) :: ys, by rw [List.map_cons, HYS.out, HF.out], by simpa using HJR.out⟩, HMR.out⟩
  · go_ret
    exact .inr ⟨rfl, [(.iface 76 (.pointer (some ⟨b, 0, none⟩)), t)], by simp, hJx⟩
set_option maxRecDepth 100000 in
set_option maxHeartbeats 2000000 in
theorem eachNode_hap (hY : ∀ (m : Nat) pre x W1, J pre W1 → NElAt P x W1 → pre.length < N → YieldAt Fence.wide m Try.prog l (nelV x) W1 (Yields dnT n₀ n₁ J Jx (pre ++ [x]) W1)) (hP : ∀ b, P b → b < n₀) (hn01 : n₀ ≤ n₁) (hAJ : Abide J)
    (t : Tr) (r : List Tr) (ih : ∀ u ∈ r, NEachSaid P n₀ n₁ N l J Jx u) (xs : List Value) (m : Nat) (b : Nat) (pre : List NEl) (W : World) (hpt : ∀ W1, Mid dnT n₀ n₁ W W1 → Calls Try.prog 112 #[.pointer (some ⟨b, 0, none⟩)] W1 (PtPost xs W1)) (hxs : DnS W P r xs) (h8 : xs.length ≤ 20000)
    (hd : DnAt W P t (.iface 81 (.pointer (some ⟨b, 0, none⟩)))) (hJ : J pre W) (hn : n₁ ≤ W.heap.size) (hN : pre.length + (nodesS r).length < N) :
    CallsIn Fence.wide m Try.prog 29 #[.iface 81 (.pointer (some ⟨b, 0, none⟩)), .func (.yield l) #[] #[]] W (NEachPost n₀ n₁ J Jx (t :: nodesS r) pre W) := by
  have hy : YieldAt Fence.wide (m - 1) Try.prog l #[.iface 81 (.pointer (some ⟨b, 0, none⟩))] W _ := hY (m - 1) pre (.iface 81 (.pointer (some ⟨b, 0, none⟩)), t) W hJ hd (by omega)
  obtain ⟨fn, tmps, assign, body, hy, hR⟩ := hy
  have HPT := Lib.hid hpt
  have HX := Lib.hid hxs
  have HP := Lib.hid hP
  have IH := Lib.hid ih
  have HAJ := Lib.hid hAJ
  have HN := Lib.hid hN
  have HLEN : Hid (xs.length = r.length) := Lib.hid hxs.len
  obtain ⟨n, hnx⟩ : ∃ n, xs.length = n := ⟨_, rfl⟩
  have HNX := Lib.hid hnx
  rw [hnx] at h8
  clear hY hpt hxs hP ih hAJ hd hJ hN hnx
  have hmx := Try.m_hap
  refine callsIn_of_wp Try.func29 rfl trivial ?_
  simp only [Try.ntmps29, List.size_toArray, List.length_cons, List.length_nil, Nat.reduceAdd, Nat.reduceSub, Array.replicate_succ, Array.replicate_zero, List.push_toArray, List.append_toArray, List.nil_append, List.cons_append]
  gi_wp2_with (first
    | ((try refine ⟨hdW' _, ?_⟩); refine hR.mono ?_; clear hR; rintro e W1 (⟨rfl, hJ1, hM1⟩ | ⟨rfl, hJx⟩))
    | ((try refine ⟨trivial, ?_⟩); (try refine ⟨hdW' _, ?_⟩); gi_at_call 112; refine (callsIn_wide.2 (HPT.out W1 hM1)).mono ?_; rintro e W2 ⟨v, rfl, hrow, hb2⟩; rw [HNX.out] at hrow; obtain ⟨A, c, rfl⟩ := own_shape hrow))
  · have hz1 := hM1.below.size
    have hz2 := hb2.size
    have hM2 : Mid dnT n₀ n₁ W W2 := hM1.trans (Mid.fresh (by omega) hb2)
    have HJ2 := Lib.hid (HAJ.out _ _ _ hJ1 hb2)
    rcases hrow.2 with ⟨hv, h0⟩ | ⟨g, cap, cur, hv, hg, hheap, hnc, _, hcs, htk⟩
    · subst h0
      injection hv with e1 e2 e3
      subst e1 e3
      have HR0 : Hid (r = []) := Lib.hid (List.eq_nil_of_length_eq_zero (by have := HLEN.out; have := HNX.out; omega))
      have HM2 := Lib.hid hM2
      clear hrow hJ1 hM1 hb2 hM2
      gi_loopw [14] (fun i wr => i = .int .i64 0 ∧ wr = W2) (fun _ _ => 0)
      case atStart => exact ⟨rfl, rfl⟩
      case round =>
        obtain ⟨rfl, rfl⟩ := hrel
        gi_wp2
        go_ret
        refine .inl ⟨rfl, ⟨[(.iface 81 (.pointer (some ⟨b, 0, none⟩)), t)], ?_, HJ2.out⟩, HM2.out⟩
        rw [HR0.out]
        simp [nodesS]
    · injection hv with e1 e2 e3
      subst e1 e3
      clear e2
      have HBLK : Hid (Blk W2 g 30 cur) := Lib.hid hheap
      have hg1 : n₁ ≤ g := by omega
      have HCUR : Hid (∀ j u, xs[j]? = some u → cur[j]? = some u) := Lib.hid fun j u hu => by
        rw [← htk, List.getElem?_take] at hu
        split at hu
        · simpa using hu
        · cases hu
      have HM2 := Lib.hid hM2
      clear hrow hJ1 hM1 hb2 hM2 hheap hcs htk
      gi_loopw [14] (fun i wr => ∃ (j : Nat) (ys : List NEl), j ≤ n ∧ i = .int .i64 j ∧ Hid (ys.map Prod.snd = nodesS (r.take j)) ∧ Hid (J (pre ++ [(.iface 81 (.pointer (some ⟨b, 0, none⟩)), t)] ++ ys) wr) ∧ Hid (Mid dnT n₀ n₁ W wr) ∧ Hid (Blk wr g 30 cur) ∧ n₁ ≤ wr.heap.size) (fun i _ => n - (intOf i).toNat)
      case atStart => exact ⟨0, [], by omega, rfl, Lib.hid (by simp [nodesS]), Lib.hid (by simpa using HJ2.out), HM2, HBLK, by omega⟩
      case round =>
        obtain ⟨j, ys, hj, rfl, HYS, HJR, HMR, HBR, hnr⟩ := hrel
        by_cases hjn : j < n
        · obtain ⟨u, hu⟩ : ∃ u, xs[j]? = some u := ⟨xs[j]'(by have := HNX.out; omega), by simp⟩
          obtain ⟨tj, htj⟩ : ∃ tj, r[j]? = some tj := ⟨r[j]'(by have := HNX.out; have := HLEN.out; omega), by simp⟩
          obtain ⟨u', hu', hdu⟩ := HX.out.at_ j tj htj
          obtain rfl : u = u' := by rw [hu] at hu'; injection hu'
          obtain ⟨T', b', rfl, hb'⟩ := hdu.shape
          have c0 := HBR.out.cell j
          rw [HCUR.out j _ hu] at c0
          have htk := nodesS_take r j tj htj
          have hpre := nodesS_pre r (j + 1)
          have hyl : ys.length = (nodesS (r.take j)).length := by rw [← HYS.out]; simp
          have hlen : (nodesS (r.take j)).length + (nodesT tj).length ≤ (nodesS r).length := by have := hpre.length_le; rw [htk, List.length_append] at this; exact this
          have C := Lib.hid (IH.out tj (List.mem_of_getElem? htj) (m - 1) _ (pre ++ [(.iface 81 (.pointer (some ⟨b, 0, none⟩)), t)] ++ ys) wr (hdu.mid HMR.out HP.out) HJR.out hnr (by have := HN.out; simp only [List.length_append, List.length_cons, List.length_nil]; omega))
          have HTK := Lib.hid htk
          have HPRE := Lib.hid hpre
          have hmm : m - 1 = m - 1 := rfl
          clear hu hu' htj hdu htk hpre hyl hlen hb'
          gi_wp2_with (((try refine ⟨trivial, ?_⟩); (try refine ⟨hdW' _, ?_⟩); gi_at_call 29; refine C.out.mono ?_; rintro e W3 (⟨rfl, ⟨zs, hzs, hJ3⟩, hM3⟩ | ⟨rfl, zs, hzs, hJ3⟩)))
          · go_roundw
            case rel => exact ⟨j + 1, ys ++ zs, by omega, by go_num, Lib.hid (by rw [List.map_append, HYS.out, hzs, HTK.out]), Lib.hid (by simpa using hJ3), Lib.hid (HMR.out.trans hM3), Lib.hid (hM3.same g cur _ hg1 rfl HBR.out), by have := hM3.below.size; omega⟩
            case measure => simp [intOf]; omega
          · go_ret
            refine .inr ⟨rfl, (.iface 81 (.pointer (some ⟨b, 0, none⟩)), t) :: (ys ++ zs), ?_, by simpa using hJ3⟩
            rw [List.map_cons, List.map_append, HYS.out]
            refine (List.prefix_cons_inj _).2 (List.IsPrefix.trans ?_ HPRE.out)
            rw [HTK.out]
            exact (List.prefix_append_right_inj _).2 hzs
        · have HF : Hid (nodesS (r.take j) = nodesS r) := Lib.hid (by rw [List.take_of_length_le (by have := HNX.out; have := HLEN.out; omega)])
          gi_wp2
          go_ret
          exact .inl ⟨rfl, ⟨(.iface 81 (.pointer (some ⟨b, 0, none⟩)), t) :: ys, by rw [List.map_cons, HYS.out, HF.out], by simpa using HJR.out⟩, HMR.out⟩
  · go_ret
    exact .inr ⟨rfl, [(.iface 81 (.pointer (some ⟨b, 0, none⟩)), t)], by simp, hJx⟩
set_option maxRecDepth 100000 in
set_option maxHeartbeats 2000000 in
theorem eachNode_tap (hY : ∀ (m : Nat) pre x W1, J pre W1 → NElAt P x W1 → pre.length < N → YieldAt Fence.wide m Try.prog l (nelV x) W1 (Yields dnT n₀ n₁ J Jx (pre ++ [x]) W1)) (hP : ∀ b, P b → b < n₀) (hn01 : n₀ ≤ n₁) (hAJ : Abide J)
    (t : Tr) (r : List Tr) (ih : ∀ u ∈ r, NEachSaid P n₀ n₁ N l J Jx u) (xs : List Value) (m : Nat) (b : Nat) (pre : List NEl) (W : World) (hpt : ∀ W1, Mid dnT n₀ n₁ W W1 → Calls Try.prog 115 #[.pointer (some ⟨b, 0, none⟩)] W1 (PtPost xs W1)) (hxs : DnS W P r xs) (h8 : xs.length ≤ 20000)
    (hd : DnAt W P t (.iface 84 (.pointer (some ⟨b, 0, none⟩)))) (hJ : J pre W) (hn : n₁ ≤ W.heap.size) (hN : pre.length + (nodesS r).length < N) :
    CallsIn Fence.wide m Try.prog 29 #[.iface 84 (.pointer (some ⟨b, 0, none⟩)), .func (.yield l) #[] #[]] W (NEachPost n₀ n₁ J Jx (t :: nodesS r) pre W) := by
  have hy : YieldAt Fence.wide (m - 1) Try.prog l #[.iface 84 (.pointer (some ⟨b, 0, none⟩))] W _ := hY (m - 1) pre (.iface 84 (.pointer (some ⟨b, 0, none⟩)), t) W hJ hd (by omega)
  obtain ⟨fn, tmps, assign, body, hy, hR⟩ := hy
  have HPT := Lib.hid hpt
  have HX := Lib.hid hxs
  have HP := Lib.hid hP
  have IH := Lib.hid ih
  have HAJ := Lib.hid hAJ
  have HN := Lib.hid hN
  have HLEN : Hid (xs.length = r.length) := Lib.hid hxs.len
  obtain ⟨n, hnx⟩ : ∃ n, xs.length = n := ⟨_, rfl⟩
  have HNX := Lib.hid hnx
  rw [hnx] at h8
  clear hY hpt hxs hP ih hAJ hd hJ hN hnx
  have hmx := Try.m_tap
  refine callsIn_of_wp Try.func29 rfl trivial ?_
  simp only [Try.ntmps29, List.size_toArray, List.length_cons, List.length_nil, Nat.reduceAdd, Nat.reduceSub, Array.replicate_succ, Array.replicate_zero, List.push_toArray, List.append_toArray, List.nil_append, List.cons_append]
  gi_wp2_with (first
    | ((try refine ⟨hdW' _, ?_⟩); refine hR.mono ?_; clear hR; rintro e W1 (⟨rfl, hJ1, hM1⟩ | ⟨rfl, hJx⟩))
    | ((try refine ⟨trivial, ?_⟩); (try refine ⟨hdW' _, ?_⟩); gi_at_call 115; refine (callsIn_wide.2 (HPT.out W1 hM1)).mono ?_; rintro e W2 ⟨v, rfl, hrow, hb2⟩; rw [HNX.out] at hrow; obtain ⟨A, c, rfl⟩ := own_shape hrow))
  · have hz1 := hM1.below.size
    have hz2 := hb2.size
    have hM2 : Mid dnT n₀ n₁ W W2 := hM1.trans (Mid.fresh (by omega) hb2)
    have HJ2 := Lib.hid (HAJ.out _ _ _ hJ1 hb2)
    rcases hrow.2 with ⟨hv, h0⟩ | ⟨g, cap, cur, hv, hg, hheap, hnc, _, hcs, htk⟩
    · subst h0
      injection hv with e1 e2 e3
      subst e1 e3
      have HR0 : Hid (r = []) := Lib.hid (List.eq_nil_of_length_eq_zero (by have := HLEN.out; have := HNX.out; omega))
      have HM2 := Lib.hid hM2
      clear hrow hJ1 hM1 hb2 hM2
      gi_loopw [14] (fun i wr => i = .int .i64 0 ∧ wr = W2) (fun _ _ => 0)
      case atStart => exact ⟨rfl, rfl⟩
      case round =>
        obtain ⟨rfl, rfl⟩ := hrel
        gi_wp2
        go_ret
        refine .inl ⟨rfl, ⟨[(.iface 84 (.pointer (some ⟨b, 0, none⟩)), t)], ?_, HJ2.out⟩, HM2.out⟩
        rw [HR0.out]
        simp [nodesS]
    · injection hv with e1 e2 e3
      subst e1 e3
      clear e2
      have HBLK : Hid (Blk W2 g 30 cur) := Lib.hid hheap
      have hg1 : n₁ ≤ g := by omega
      have HCUR : Hid (∀ j u, xs[j]? = some u → cur[j]? = some u) := Lib.hid fun j u hu => by
        rw [← htk, List.getElem?_take] at hu
        split at hu
        · simpa using hu
        · cases hu
      have HM2 := Lib.hid hM2
      clear hrow hJ1 hM1 hb2 hM2 hheap hcs htk
      gi_loopw [14] (fun i wr => ∃ (j : Nat) (ys : List NEl), j ≤ n ∧ i = .int .i64 j ∧ Hid (ys.map Prod.snd = nodesS (r.take j)) ∧ Hid (J (pre ++ [(.iface 84 (.pointer (some ⟨b, 0, none⟩)), t)] ++ ys) wr) ∧ Hid (Mid dnT n₀ n₁ W wr) ∧ Hid (Blk wr g 30 cur) ∧ n₁ ≤ wr.heap.size) (fun i _ => n - (intOf i).toNat)
      case atStart => exact ⟨0, [], by omega, rfl, Lib.hid (by simp [nodesS]), Lib.hid (by simpa using HJ2.out), HM2, HBLK, by omega⟩
      case round =>
        obtain ⟨j, ys, hj, rfl, HYS, HJR, HMR, HBR, hnr⟩ := hrel
        by_cases hjn : j < n
        · obtain ⟨u, hu⟩ : ∃ u, xs[j]? = some u := ⟨xs[j]'(by have := HNX.out; omega), by simp⟩
          obtain ⟨tj, htj⟩ : ∃ tj, r[j]? = some tj := ⟨r[j]'(by have := HNX.out; have := HLEN.out; omega), by simp⟩
          obtain ⟨u', hu', hdu⟩ := HX.out.at_ j tj htj
          obtain rfl : u = u' := by rw [hu] at hu'; injection hu'
          obtain ⟨T', b', rfl, hb'⟩ := hdu.shape
          have c0 := HBR.out.cell j
          rw [HCUR.out j _ hu] at c0
          have htk := nodesS_take r j tj htj
          have hpre := nodesS_pre r (j + 1)
          have hyl : ys.length = (nodesS (r.take j)).length := by rw [← HYS.out]; simp
          have hlen : (nodesS (r.take j)).length + (nodesT tj).length ≤ (nodesS r).length := by have := hpre.length_le; rw [htk, List.length_append] at this; exact this
          have C := Lib.hid (IH.out tj (List.mem_of_getElem? htj) (m - 1) _ (pre ++ [(.iface 84 (.pointer (some ⟨b, 0, none⟩)), t)] ++ ys) wr (hdu.mid HMR.out HP.out) HJR.out hnr (by have := HN.out; simp only [List.length_append, List.length_cons, List.length_nil]; omega))
          have HTK := Lib.hid htk
          have HPRE := Lib.hid hpre
          have hmm : m - 1 = m - 1 := rfl
          clear hu hu' htj hdu htk hpre hyl hlen hb'
          gi_wp2_with (((try refine ⟨trivial, ?_⟩); (try refine ⟨hdW' _, ?_⟩); gi_at_call 29; refine C.out.mono ?_; rintro e W3 (⟨rfl, ⟨zs, hzs, hJ3⟩, hM3⟩ | ⟨rfl, zs, hzs, hJ3⟩)))
          · go_roundw
            case rel => exact ⟨j + 1, ys ++ zs, by omega, by go_num, Lib.hid (by rw [List.map_append, HYS.out, hzs, HTK.out]), Lib.hid (by simpa using hJ3), Lib.hid (HMR.out.trans hM3), Lib.hid (hM3.same g cur _ hg1 rfl HBR.out), by have := hM3.below.size; omega⟩
            case measure => simp [intOf]; omega
          · go_ret
            refine .inr ⟨rfl, (.iface 84 (.pointer (some ⟨b, 0, none⟩)), t) :: (ys ++ zs), ?_, by simpa using hJ3⟩
            rw [List.map_cons, List.map_append, HYS.out]
            refine (List.prefix_cons_inj _).2 (List.IsPrefix.trans ?_ HPRE.out)
            rw [HTK.out]
            exact (List.prefix_append_right_inj _).2 hzs
        · have HF : Hid (nodesS (r.take j) = nodesS r) := Lib.hid (by rw [List.take_of_length_le (by have := HNX.out; have := HLEN.out; omega)])
          gi_wp2
          go_ret
          exact .inl ⟨rfl, ⟨(.iface 84 (.pointer (some ⟨b, 0, none⟩)), t) :: ys, by rw [List.map_cons, HYS.out, HF.out], by simpa using HJR.out⟩, HMR.out⟩
  · go_ret
    exact .inr ⟨rfl, [(.iface 84 (.pointer (some ⟨b, 0, none⟩)), t)], by simp, hJx⟩
set_option maxRecDepth 100000 in
set_option maxHeartbeats 2000000 in
theorem eachNode_app (hY : ∀ (m : Nat) pre x W1, J pre W1 → NElAt P x W1 → pre.length < N → YieldAt Fence.wide m Try.prog l (nelV x) W1 (Yields dnT n₀ n₁ J Jx (pre ++ [x]) W1)) (hP : ∀ b, P b → b < n₀) (hn01 : n₀ ≤ n₁) (hAJ : Abide J)
    (t : Tr) (r : List Tr) (ih : ∀ u ∈ r, NEachSaid P n₀ n₁ N l J Jx u) (xs : List Value) (m : Nat) (b : Nat) (pre : List NEl) (W : World) (hpt : ∀ W1, Mid dnT n₀ n₁ W W1 → Calls Try.prog 109 #[.pointer (some ⟨b, 0, none⟩)] W1 (PtPost xs W1)) (hxs : DnS W P r xs) (h8 : xs.length ≤ 20000)
    (hd : DnAt W P t (.iface 78 (.pointer (some ⟨b, 0, none⟩)))) (hJ : J pre W) (hn : n₁ ≤ W.heap.size) (hN : pre.length + (nodesS r).length < N) :
    CallsIn Fence.wide m Try.prog 29 #[.iface 78 (.pointer (some ⟨b, 0, none⟩)), .func (.yield l) #[] #[]] W (NEachPost n₀ n₁ J Jx (t :: nodesS r) pre W) := by
  have hy : YieldAt Fence.wide (m - 1) Try.prog l #[.iface 78 (.pointer (some ⟨b, 0, none⟩))] W _ := hY (m - 1) pre (.iface 78 (.pointer (some ⟨b, 0, none⟩)), t) W hJ hd (by omega)
  obtain ⟨fn, tmps, assign, body, hy, hR⟩ := hy
  have HPT := Lib.hid hpt
  have HX := Lib.hid hxs
  have HP := Lib.hid hP
  have IH := Lib.hid ih
  have HAJ := Lib.hid hAJ
  have HN := Lib.hid hN
  have HLEN : Hid (xs.length = r.length) := Lib.hid hxs.len
  obtain ⟨n, hnx⟩ : ∃ n, xs.length = n := ⟨_, rfl⟩
  have HNX := Lib.hid hnx
  rw [hnx] at h8
  clear hY hpt hxs hP ih hAJ hd hJ hN hnx
  have hmx := Try.m_app
  refine callsIn_of_wp Try.func29 rfl trivial ?_
  simp only [Try.ntmps29, List.size_toArray, List.length_cons, List.length_nil, Nat.reduceAdd, Nat.reduceSub, Array.replicate_succ, Array.replicate_zero, List.push_toArray, List.append_toArray, List.nil_append, List.cons_append]
  gi_wp2_with (first
    | ((try refine ⟨hdW' _, ?_⟩); refine hR.mono ?_; clear hR; rintro e W1 (⟨rfl, hJ1, hM1⟩ | ⟨rfl, hJx⟩))
    | ((try refine ⟨trivial, ?_⟩); (try refine ⟨hdW' _, ?_⟩); gi_at_call 109; refine (callsIn_wide.2 (HPT.out W1 hM1)).mono ?_; rintro e W2 ⟨v, rfl, hrow, hb2⟩; rw [HNX.out] at hrow; obtain ⟨A, c, rfl⟩ := own_shape hrow))
  · have hz1 := hM1.below.size
    have hz2 := hb2.size
    have hM2 : Mid dnT n₀ n₁ W W2 := hM1.trans (Mid.fresh (by omega) hb2)
    have HJ2 := Lib.hid (HAJ.out _ _ _ hJ1 hb2)
    rcases hrow.2 with ⟨hv, h0⟩ | ⟨g, cap, cur, hv, hg, hheap, hnc, _, hcs, htk⟩
    · subst h0
      injection hv with e1 e2 e3
      subst e1 e3
      have HR0 : Hid (r = []) := Lib.hid (List.eq_nil_of_length_eq_zero (by have := HLEN.out; have := HNX.out; omega))
      have HM2 := Lib.hid hM2
      clear hrow hJ1 hM1 hb2 hM2
      gi_loopw [14] (fun i wr => i = .int .i64 0 ∧ wr = W2) (fun _ _ => 0)
      case atStart => exact ⟨rfl, rfl⟩
      case round =>
        obtain ⟨rfl, rfl⟩ := hrel
        gi_wp2
        go_ret
        refine .inl ⟨rfl, ⟨[(.iface 78 (.pointer (some ⟨b, 0, none⟩)), t)], ?_, HJ2.out⟩, HM2.out⟩
        rw [HR0.out]
        simp [nodesS]
    · injection hv with e1 e2 e3
      subst e1 e3
      clear e2
      have HBLK : Hid (Blk W2 g 30 cur) := Lib.hid hheap
      have hg1 : n₁ ≤ g := by omega
      have HCUR : Hid (∀ j u, xs[j]? = some u → cur[j]? = some u) := Lib.hid fun j u hu => by
        rw [← htk, List.getElem?_take] at hu
        split at hu
        · simpa using hu
        · cases hu
      have HM2 := Lib.hid hM2
      clear hrow hJ1 hM1 hb2 hM2 hheap hcs htk
      gi_loopw [14] (fun i wr => ∃ (j : Nat) (ys : List NEl), j ≤ n ∧ i = .int .i64 j ∧ Hid (ys.map Prod.snd = nodesS (r.take j)) ∧ Hid (J (pre ++ [(.iface 78 (.pointer (some ⟨b, 0, none⟩)), t)] ++ ys) wr) ∧ Hid (Mid dnT n₀ n₁ W wr) ∧ Hid (Blk wr g 30 cur) ∧ n₁ ≤ wr.heap.size) (fun i _ => n - (intOf i).toNat)
      case atStart => exact ⟨0, [], by omega, rfl, Lib.hid (by simp [nodesS]), Lib.hid (by simpa using HJ2.out), HM2, HBLK, by omega⟩
      case round =>
        obtain ⟨j, ys, hj, rfl, HYS, HJR, HMR, HBR, hnr⟩ := hrel
        by_cases hjn : j < n
        · obtain ⟨u, hu⟩ : ∃ u, xs[j]? = some u := ⟨xs[j]'(by have := HNX.out; omega), by simp⟩
          obtain ⟨tj, htj⟩ : ∃ tj, r[j]? = some tj := ⟨r[j]'(by have := HNX.out; have := HLEN.out; omega), by simp⟩
          obtain ⟨u', hu', hdu⟩ := HX.out.at_ j tj htj
          obtain rfl : u = u' := by rw [hu] at hu'; injection hu'
          obtain ⟨T', b', rfl, hb'⟩ := hdu.shape
          have c0 := HBR.out.cell j
          rw [HCUR.out j _ hu] at c0
          have htk := nodesS_take r j tj htj
          have hpre := nodesS_pre r (j + 1)
          have hyl : ys.length = (nodesS (r.take j)).length := by rw [← HYS.out]; simp
          have hlen : (nodesS (r.take j)).length + (nodesT tj).length ≤ (nodesS r).length := by have := hpre.length_le; rw [htk, List.length_append] at this; exact this
          have C := Lib.hid (IH.out tj (List.mem_of_getElem? htj) (m - 1) _ (pre ++ [(.iface 78 (.pointer (some ⟨b, 0, none⟩)), t)] ++ ys) wr (hdu.mid HMR.out HP.out) HJR.out hnr (by have := HN.out; simp only [List.length_append, List.length_cons, List.length_nil]; omega))
          have HTK := Lib.hid htk
          have HPRE := Lib.hid hpre
          have hmm : m - 1 = m - 1 := rfl
          clear hu hu' htj hdu htk hpre hyl hlen hb'
          gi_wp2_with (((try refine ⟨trivial, ?_⟩); (try refine ⟨hdW' _, ?_⟩); gi_at_call 29; refine C.out.mono ?_; rintro e W3 (⟨rfl, ⟨zs, hzs, hJ3⟩, hM3⟩ | ⟨rfl, zs, hzs, hJ3⟩)))
          · go_roundw
            case rel => exact ⟨j + 1, ys ++ zs, by omega, by go_num, Lib.hid (by rw [List.map_append, HYS.out, hzs, HTK.out]), Lib.hid (by simpa using hJ3), Lib.hid (HMR.out.trans hM3), Lib.hid (hM3.same g cur _ hg1 rfl HBR.out), by have := hM3.below.size; omega⟩
            case measure => simp [intOf]; omega
          · go_ret
            refine .inr ⟨rfl, (.iface 78 (.pointer (some ⟨b, 0, none⟩)), t) :: (ys ++ zs), ?_, by simpa using hJ3⟩
            rw [List.map_cons, List.map_append, HYS.out]
            refine (List.prefix_cons_inj _).2 (List.IsPrefix.trans ?_ HPRE.out)
            rw [HTK.out]
            exact (List.prefix_append_right_inj _).2 hzs
        · have HF : Hid (nodesS (r.take j) = nodesS r) := Lib.hid (by rw [List.take_of_length_le (by have := HNX.out; have := HLEN.out; omega)])
          gi_wp2
          go_ret
          exact .inl ⟨rfl, ⟨(.iface 78 (.pointer (some ⟨b, 0, none⟩)), t) :: ys, by rw [List.map_cons, HYS.out, HF.out], by simpa using HJR.out⟩, HMR.out⟩
  · go_ret
    exact .inr ⟨rfl, [(.iface 78 (.pointer (some ⟨b, 0, none⟩)), t)], by simp, hJx⟩
theorem len_nodesS (r : List Tr) : r.length ≤ (nodesS r).length := by
  induction r with
  | nil => simp
  | cons t r ih =>
    have h := nodes_length t
    have h2 := dvN_pos t
    simp only [nodesS, List.length_append, List.length_cons]
    omega
theorem nodesT_def (a : List UInt8) (p : Tr) (r : List Tr) : nodesT (.mk a (p :: r)) = .mk a (p :: r) :: (if p.atom = sAx then [] else nodesS r) := by
  rw [nodesT]
  unfold nodesP
  rfl
theorem eachNode_any (hY : ∀ (m : Nat) pre x W1, J pre W1 → NElAt P x W1 → pre.length < N → YieldAt Fence.wide m Try.prog l (nelV x) W1 (Yields dnT n₀ n₁ J Jx (pre ++ [x]) W1)) (hP : ∀ b, P b → b < n₀) (hn01 : n₀ ≤ n₁) (hAJ : Abide J) (hN8 : N ≤ 20000) : ∀ t : Tr, NEachSaid P n₀ n₁ N l J Jx t := by
  intro t
  refine Tr.all (p := NEachSaid P n₀ n₁ N l J Jx) ?_ t
  intro a ps ih m v pre W hd hJ hn hN
  have hblk : ∀ {W1 : World}, Mid dnT n₀ n₁ W W1 → ∀ (b : Nat), P b → W1.heap[b]? = W.heap[b]? := fun hm b hb => hm.below.block b (hP b hb)
  cases ps with
  | nil => unfold DnAt DnP at hd; exact hd.elim
  | cons p r =>
    rw [nodesT_def] at hN ⊢
    rcases hd.form with ⟨ha, b, u, rfl, rfl, hb, hl, hk⟩ | ⟨ha, xs, hs, hnode⟩
    · rw [if_pos ha] at hN ⊢
      exact eachNode_ax hY hP hn01 hAJ _ [] (fun u hu => by cases hu) [] m b pre W (fun W1 _ => parts_ax b W1) DnS.nil (by simp) hd hJ hn (by simp only [List.length_cons, List.length_nil] at hN; simp only [nodesS, List.length_nil]; omega)
    · rw [if_neg ha] at hN ⊢
      have hN' : pre.length + (nodesS r).length < N := by simp only [List.length_cons] at hN; omega
      have h8 : xs.length ≤ 20000 := by have := len_nodesS r; rw [hs.len]; omega
      have ih' : ∀ u ∈ r, NEachSaid P n₀ n₁ N l J Jx u := fun u hu => ih u (List.mem_cons_of_mem _ hu)
      have hifc := hs.ifc
      rcases hnode with ⟨e, b, y, rfl, rfl, hb, hk⟩ | ⟨e, b, y, rfl, rfl, hb, hk⟩ | ⟨e, b, y, rfl, rfl, hb, hk⟩ | ⟨e, b, y, z, rfl, rfl, hb, hk⟩ | ⟨e, b, y, ys, g, o, c, rfl, rfl, hb, hg, hk, hc, hlc⟩
      · obtain ⟨T, q, rfl⟩ := hifc y (by simp)
        exact eachNode_fun hY hP hn01 hAJ _ r ih' _ m b pre W (fun W1 hm => parts_fun b T q W1 ((hblk hm b hb).trans hk)) hs h8 hd hJ hn hN'
      · obtain ⟨T, q, rfl⟩ := hifc y (by simp)
        exact eachNode_tfun hY hP hn01 hAJ _ r ih' _ m b pre W (fun W1 hm => parts_tfun b T q W1 ((hblk hm b hb).trans hk)) hs h8 hd hJ hn hN'
      · obtain ⟨T, q, rfl⟩ := hifc y (by simp)
        exact eachNode_hap hY hP hn01 hAJ _ r ih' _ m b pre W (fun W1 hm => parts_hap b T q W1 ((hblk hm b hb).trans hk)) hs h8 hd hJ hn hN'
      · obtain ⟨T, q, rfl⟩ := hifc y (by simp)
        obtain ⟨T', q', rfl⟩ := hifc z (by simp)
        exact eachNode_tap hY hP hn01 hAJ _ r ih' _ m b pre W (fun W1 hm => parts_tap b T q T' q' W1 ((hblk hm b hb).trans hk)) hs h8 hd hJ hn hN'
      · obtain ⟨T, q, rfl⟩ := hifc y (by simp)
        refine eachNode_app hY hP hn01 hAJ _ r ih' _ m b pre W (fun W1 hm => ?_) hs h8 hd hJ hn hN'
        refine parts_app b T q ys g o ys.length c rfl (by simp only [List.length_cons] at h8; omega) W1 (fun u hu => hifc u (by simp [hu])) ?_ (fun j u hu => (World.cell?_of_block (hblk hm g hg)).trans (hc j u hu)) ((hblk hm b hb).trans hk)
        have := hP g hg
        have := hm.below.size
        omega
end

/-- The iterator's value. -/
theorem nodes_any (T : TypeId) (b : Nat) (w : World) :
    Calls Try.prog 20 #[.iface T (.pointer (some ⟨b, 0, none⟩))] w fun e w' => e = .returned (.func (.func 28) #[] #[.pointer (some ⟨w.heap.size, 0, none⟩)]) ∧ w' = w.alloc (.cells #[.iface T (.pointer (some ⟨b, 0, none⟩))] 30) := by
  go_enter Try.func20, Try.ntmps20
  go_wp2
  go_ret
  exact ⟨rfl, rfl⟩
theorem nyield_any {m : Nat} (m' : Nat) {P : Program} {l : Nat} {args : Array Value} {W : World} {R : Ending → World → Prop} (h : YieldAt Fence.wide m P l args W R) : YieldAt Fence.wide m' P l args W R := by
  obtain ⟨fn, tmps, assign, body, hy, hR⟩ := h
  exact ⟨fn, tmps, assign, body, hy, hR.1, fun c cs _ => hR.2 c cs (room_wide _)⟩
set_option maxRecDepth 100000 in
/-- The iterator's contract. -/
theorem nodes_gives (P : Nat → Prop) (n₀ n₁ n B b : Nat) (T : TypeId) (t : Tr) (w : World) (hB : B < w.heap.size) (hc : w.cell? ⟨B, 0, none⟩ = some (.iface T (.pointer (some ⟨b, 0, none⟩)))) (hd : DnAt w P t (.iface T (.pointer (some ⟨b, 0, none⟩)))) (hP : ∀ b, P b → b < n₀) (hn : n₀ ≤ w.heap.size) (hn01 : n₀ ≤ n₁) (hN : dvN t ≤ 20000) :
    Gives dnT n₀ n₁ Fence.wide n Try.prog 28 #[.pointer (some ⟨B, 0, none⟩)] nelV (NElAt P) (fun xs => xs.map Prod.snd = nodesT t) (fun xs => xs.map Prod.snd <+: nodesT t) (nodesT t).length w := by
  intro l J Jx W hW hn1 hAJ hAJx hY h0
  have kB : W.cell? ⟨B, 0, none⟩ = some (.iface T (.pointer (some ⟨b, 0, none⟩))) := (hW.cell (p := ⟨B, 0, none⟩) hB).trans hc
  have hp := eachNode_any (N := (nodesT t).length) (fun m pre x W1 h1 h2 h3 => nyield_any m (hY pre x W1 h1 h2 h3)) hP hn01 hAJ (by rw [nodes_length]; exact hN) t (n - 1) (.iface T (.pointer (some ⟨b, 0, none⟩))) [] W (hd.mono fun q hq => ⟨hq, hW.block q (by have := hP q hq; omega)⟩) h0 hn1 (by simp)
  clear hY hd hW
  refine callsIn_of_wp Try.func28 rfl trivial ?_
  simp only [Try.ntmps28, List.size_toArray, List.length_cons, List.length_nil, Nat.reduceAdd, Nat.reduceSub, Array.replicate_succ, Array.replicate_zero, List.push_toArray, List.append_toArray, List.nil_append, List.cons_append]
  gi_wp2_with ((try refine ⟨trivial, ?_⟩); (try refine ⟨hdW' _, ?_⟩); gi_at_call 29; refine hp.mono ?_; clear hp; rintro e W1 (⟨rfl, ⟨xs, hxs, hj⟩, _⟩ | ⟨rfl, xs, hxs, hj⟩))
  · go_end0
    exact ⟨⟨_, rfl⟩, .inl ⟨xs, hxs, by simpa using hj⟩⟩
  · go_end0
    exact ⟨⟨_, rfl⟩, .inr ⟨xs, hxs, by simpa using hj⟩⟩
end Go.Proofs.Ytnnnphammfeemaa
