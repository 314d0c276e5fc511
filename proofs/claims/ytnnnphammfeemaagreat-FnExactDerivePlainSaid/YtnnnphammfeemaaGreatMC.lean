/- The model tells bags. -/
import Derived.Test.YtnnnphammfeemaaGreatMB
import Derived.Maps.RangeWalk
namespace Go.Proofs.YtnnnphammfeemaaGreat
set_option linter.unusedVariables false
open Go.RowKit

theorem isTys_next (r : List Tr) (last : List UInt8) (j : Nat) (t : Tr) (h : r[j]? = some t) : isTys last (r.drop j) = (isTy t && decide (¬ wrTr t < last) && isTys (wrTr t) (r.drop (j + 1))) := by
  obtain ⟨hj, e⟩ := List.getElem?_eq_some_iff.1 h
  rw [List.drop_eq_getElem_cons hj, e]
  rfl
theorem isTys_end (r : List Tr) (last : List UInt8) (j : Nat) (h : r.length ≤ j) : isTys last (r.drop j) = true := by
  rw [List.drop_of_length_le h]; rfl
theorem nil_least (x : List UInt8) : ¬ x < [] := by simp

/-- What stays while two texts are compared: the box, two trees. -/
structure LKeep (B : Nat) (w : World) (P : Nat → Prop) (b g n cap j i : Nat) (t1 t2 : Tr) (A1 A2 : Option Addr) (n1 c1 n2 c2 : Nat) (w' : World) : Prop where
  box : Blk w' b 52 #[.string ⟨#[]⟩, .slice (some ⟨g, 0, none⟩) n cap]
  x1 : w'.cell? ⟨g, j * 2, none⟩ = some (.string ⟨t1.atom.toArray⟩)
  y1 : w'.cell? ⟨g, j * 2 + 1, none⟩ = some (.slice A1 n1 c1)
  x2 : w'.cell? ⟨g, i * 2, none⟩ = some (.string ⟨t2.atom.toArray⟩)
  y2 : w'.cell? ⟨g, i * 2 + 1, none⟩ = some (.slice A2 n2 c2)
  tr1 : TAt w' P t1 (.agg #[.string ⟨t1.atom.toArray⟩, .slice A1 n1 c1])
  tr2 : TAt w' P t2 (.agg #[.string ⟨t2.atom.toArray⟩, .slice A2 n2 c2])
  pg : P g
  all : ∀ q, P q → q < w'.heap.size
  below : Below B w w'
  le : B ≤ w'.heap.size
section
variable {B : Nat} {w w' w2 : World} {P : Nat → Prop} {b g n cap j i : Nat} {t1 t2 : Tr} {A1 A2 : Option Addr} {n1 c1 n2 c2 : Nat}
theorem LKeep.drew (h : LKeep B w P b g n cap j i t1 t2 A1 A2 n1 c1 n2 c2 w') : LKeep B w P b g n cap j i t1 t2 A1 A2 n1 c1 n2 c2 w'.drew :=
  ⟨h.box, h.x1, h.y1, h.x2, h.y2, h.tr1.mono fun _ hb => ⟨hb, fun _ => rfl⟩, h.tr2.mono fun _ hb => ⟨hb, fun _ => rfl⟩, h.pg, h.all, h.below.drew, h.le⟩
theorem LKeep.more (h : LKeep B w P b g n cap j i t1 t2 A1 A2 n1 c1 n2 c2 w') (hb : Below w'.heap.size w' w2) : LKeep B w P b g n cap j i t1 t2 A1 A2 n1 c1 n2 c2 w2 :=
  have c := fun o => hb.cell (p := ⟨g, o, none⟩) (h.all g h.pg)
  ⟨h.box.below hb h.box.lt, (c _).trans h.x1, (c _).trans h.y1, (c _).trans h.x2, (c _).trans h.y2, h.tr1.below hb h.all, h.tr2.below hb h.all, h.pg, fun q hq => Nat.lt_of_lt_of_le (h.all q hq) hb.size, h.below.trans (hb.mono h.le), Nat.le_trans h.le hb.size⟩
theorem LKeep.drewN (h : LKeep B w P b g n cap j i t1 t2 A1 A2 n1 c1 n2 c2 w') (m : Nat) : LKeep B w P b g n cap j i t1 t2 A1 A2 n1 c1 n2 c2 (w'.drewN m) :=
  h.more ⟨rfl, rfl, rfl, Nat.le_refl _, fun _ _ => rfl⟩
theorem LKeep.s (h : LKeep B w P b g n cap j i t1 t2 A1 A2 n1 c1 n2 c2 w') :
    w'.cell? ⟨b, 1, none⟩ = some (.slice (some ⟨g, 0, none⟩) n cap) ∧ w'.cell? ⟨g, j * 2, none⟩ = some (.string ⟨t1.atom.toArray⟩) ∧ w'.cell? ⟨g, j * 2 + 1, none⟩ = some (.slice A1 n1 c1) ∧ w'.cell? ⟨g, i * 2, none⟩ = some (.string ⟨t2.atom.toArray⟩) ∧ w'.cell? ⟨g, i * 2 + 1, none⟩ = some (.slice A2 n2 c2) ∧ LKeep B w P b g n cap j i t1 t2 A1 A2 n1 c1 n2 c2 w' := by
  have h1 := h.box.cell 1
  simp at h1
  exact ⟨h1, h.x1, h.y1, h.x2, h.y2, h⟩
theorem LKeep.s1 (h : LKeep B w P b g n cap j i t1 t2 A1 A2 n1 c1 n2 c2 w') :
    w'.cell? ⟨b, 1, none⟩ = some (.slice (some ⟨g, 0, none⟩) n cap) ∧ w'.cell? ⟨g, j * 2, none⟩ = some (.string ⟨t1.atom.toArray⟩) ∧ w'.cell? ⟨g, j * 2 + 1, none⟩ = some (.slice A1 n1 c1) ∧ LKeep B w P b g n cap j i t1 t2 A1 A2 n1 c1 n2 c2 w' :=
  ⟨h.s.1, h.x1, h.y1, h⟩
end

theorem head_no (a : List UInt8) (ps : List Tr) (h : ¬ (a = [] ∧ ps ≠ [])) : isBag (.mk a ps) = false ∧ (if (Tr.mk a ps).atom ≠ [] then ([] : List UInt8) else match (Tr.mk a ps).parts with | [] => [] | p :: _ => p.atom) = [] := by
  by_cases ha : a = []
  · have hp : ps = [] := by
      rcases Classical.em (ps = []) with h1 | h1
      · exact h1
      · exact absurd ⟨ha, h1⟩ h
    subst ha hp
    exact ⟨rfl, rfl⟩
  · exact ⟨by simp [isBag, ha], by rw [if_pos]; exact ha⟩

set_option maxRecDepth 100000 in
theorem l3IsBag_no (a : List UInt8) (ps : List Tr) (h : ¬ (a = [] ∧ ps ≠ [])) : BgSaid (.mk a ps) := by
  intro v w P ht hP hl
  obtain ⟨h1, h2⟩ := head_no a ps h
  have HX := Lib.hid h1
  have HH : Hid (∀ o, Calls Tryz.prog 60 #[v] (w.alloc o) fun e w' => e = .returned (.string ⟨#[]⟩) ∧ Below (w.alloc o).heap.size (w.alloc o) w') := by
    refine Lib.hid fun o => (l1Head_any (.mk a ps) v (w.alloc o) P (ht.alloc hP o) (fun b hb => by have := hP b hb; simp; omega)).mono fun e w2 ⟨he, hb⟩ => ⟨?_, hb⟩
    exact he.trans (congrArg (fun l : List UInt8 => Ending.returned (.string ⟨l.toArray⟩)) h2)
  obtain ⟨A, n, c, rfl⟩ := ht.shape
  clear h h1 h2 ht hP hl
  go_enter Tryz.func124, Tryz.ntmps124
  go_wp2_with fail
  refine (HH.out _).mono ?_
  rintro e w1 ⟨rfl, hb1⟩
  have hB1 : Below w.heap.size w w1 := ((Below.refl _ _).alloc (Nat.le_refl _) _).trans (hb1.mono (by simp))
  go_wp2_with fail
  go_ret
  exact ⟨ret_bool (by rw [HX.out]), hB1⟩

/-- What stands within a bag, for the walk. -/
structure BgIn (w : World) (P : Nat → Prop) (g N : Nat) (ps : List Tr) (xs : List Value) : Prop where
  cells : ∀ j u, xs[j]? = some u → w.cell? ⟨g, j, none⟩ = some u
  trees : VsAt w P ps xs
  len : ps.length = N
  short : ∀ t ∈ ps, (wrTr t).length ≤ 1000000

theorem BgIn.part {w w' : World} {P : Nat → Prop} {g N : Nat} {ps : List Tr} {xs : List Value} (h : BgIn w P g N ps xs) (hP : ∀ b, P b → b < w.heap.size) (hg : P g) (hb : Below w.heap.size w w') (k : Nat) (t : Tr) (hk : ps[k]? = some t) :
    ∃ A n c, w'.cell? ⟨g, k * 2, none⟩ = some (.string ⟨t.atom.toArray⟩) ∧ w'.cell? ⟨g, k * 2 + 1, none⟩ = some (.slice A n c) ∧ TAt w' P t (.agg #[.string ⟨t.atom.toArray⟩, .slice A n c]) ∧ (wrTr t).length ≤ 1000000 := by
  obtain ⟨x, y, hx, hy, hxy⟩ := h.trees.at_ k t hk
  obtain ⟨A, n, c, e⟩ := hxy.shape
  simp at e
  obtain ⟨rfl, rfl⟩ := e
  have hgb := hP g hg
  exact ⟨A, n, c, (hb.cell (p := ⟨g, k * 2, none⟩) hgb).trans (h.cells _ _ (by rw [Nat.mul_comm]; exact hx)), (hb.cell (p := ⟨g, k * 2 + 1, none⟩) hgb).trans (h.cells _ _ (by rw [Nat.mul_comm]; exact hy)), hxy.below hb hP, h.short t (List.mem_of_getElem? hk)⟩

/-- What holds at the head of each round: the parts up to k are types in order. -/
structure TyRun (r : List Tr) (k : Nat) (last : List UInt8) : Prop where
  run : isTys [] r = isTys last (r.drop (k - 1))
  one : k ≤ 1 → last = []
  more : ∀ m, k = m + 2 → ∃ t, r[m]? = some t ∧ last = wrTr t

set_option maxRecDepth 100000 in
set_option maxHeartbeats 4000000 in
theorem l3IsBag_yes (pa : List UInt8) (pq r : List Tr) (ih : ∀ t ∈ r, TySaid t) : BgSaid (.mk [] (.mk pa pq :: r)) := by
  intro v w P ht hP hl
  obtain ⟨vp, rfl, hle, hle2, ⟨h0, _⟩ | ⟨_, g, cap, xs, rfl, hcap, hPg, hc, hvs⟩⟩ := ht.form
  · cases h0
  obtain ⟨N, hN⟩ : ∃ N, (Tr.mk pa pq :: r).length = N := ⟨_, rfl⟩
  have HB : Hid (BgIn w P g N (Tr.mk pa pq :: r) xs) := Lib.hid ⟨hc, hvs, hN, fun t ht => by have := wrTr_part t _ ht; omega⟩
  rw [hN] at ht hle2 hcap ⊢
  have HN : Hid (r.length + 1 = N) := Lib.hid hN
  have HP := Lib.hid hP
  have HG := Lib.hid hPg
  have IH := Lib.hid ih
  have HI := Lib.hid (show isBag (.mk [] (.mk pa pq :: r)) = (decide (pa = [109]) && isTys [] r) by simp only [isBag, isBagL, decide_true, Bool.true_and]; rfl)
  have HH : Hid (∀ o, Calls Tryz.prog 60 #[.agg #[.string ⟨#[]⟩, .slice (some ⟨g, 0, none⟩) N cap]] (w.alloc o) fun e w' => e = .returned (.string ⟨pa.toArray⟩) ∧ Below (w.alloc o).heap.size (w.alloc o) w') := by
    refine Lib.hid fun o => (l1Head_any _ _ (w.alloc o) P (ht.alloc hP o) (fun b hb => by have := hP b hb; simp; omega)).mono fun e w2 ⟨he, hb⟩ => ⟨?_, hb⟩
    simpa [Tr.atom, Tr.parts] using he
  clear ht hP hl ih hc hvs hN hPg
  by_cases hm : pa = [109]
  · have hmb : (pa != [109]) = false := by rw [hm]; rfl
    have hmb2 : (pa == [109]) = true := by rw [hm]; rfl
    have HM := Lib.hid hm
    clear hm
    go_enter Tryz.func124, Tryz.ntmps124
    go_wp2_with fail
    refine (HH.out _).mono ?_
    rintro e w1 ⟨rfl, hb1⟩
    have hB1 : Below w.heap.size w w1 := ((Below.refl _ _).alloc (Nat.le_refl _) _).trans (hb1.mono (by simp))
    have hr := (Blk.new w 52 #[.string ⟨#[]⟩, .slice (some ⟨g, 0, none⟩) N cap]).below hb1 (by simp)
    go_wp2_with fail
    go_loopw [3] (fun i wr => ∃ (k : Nat) (last : List UInt8), 1 ≤ k ∧ k ≤ N ∧ i = .int .i64 (k : Nat) ∧ Hid (TyRun r k last) ∧ Below w.heap.size w wr ∧ Blk wr w.heap.size 52 #[.string ⟨#[]⟩, .slice (some ⟨g, 0, none⟩) N cap]) (fun i _ => N - (intOf i).toNat)
    case atStart => exact ⟨1, [], by omega, by have := HN.out; omega, rfl, Lib.hid ⟨rfl, fun _ => rfl, fun m e => by omega⟩, hB1, hr⟩
    case round =>
      obtain ⟨k, last, hk1, hkN, rfl, HS, hbw, hblk⟩ := hrel
      have r1 := hblk.cell 1
      have hlt := hblk.lt
      simp at r1
      have hall : Hid (∀ q, P q → q < wr.heap.size) := Lib.hid fun q hq => by have := HP.out q hq; have := hbw.size; omega
      by_cases hkl : k < N
      · have hkr : k - 1 < r.length := by have := HN.out; omega
        obtain ⟨t1, ht1⟩ : ∃ t1, r[k - 1]? = some t1 := ⟨r[k - 1], by simp⟩
        have hp1 : (Tr.mk pa pq :: r)[k]? = some t1 := by
          obtain ⟨j, rfl⟩ : ∃ j, k = j + 1 := ⟨k - 1, by omega⟩
          simpa using ht1
        obtain ⟨A, n, c, x1, y1, tr1, hl1⟩ := HB.out.part HP.out HG.out hbw k t1 hp1
        have HST := Lib.hid (show isTys last (r.drop (k - 1)) = (isTy t1 && decide (¬ wrTr t1 < last) && isTys (wrTr t1) (r.drop k)) by
          have := isTys_next r last (k - 1) t1 ht1
          rwa [show k - 1 + 1 = k by omega] at this)
        have HM1 := Lib.hid (List.mem_of_getElem? ht1)
        have HT1 := Lib.hid ht1
        clear ht1 hp1
        by_cases hc3 : isTy t1 = true ∧ 1 < k
        · obtain ⟨hT, hj0⟩ := hc3
          obtain ⟨m, hkm⟩ : ∃ m, k = m + 1 := ⟨k - 1, by omega⟩
          have hm0 : m < N := by omega
          obtain ⟨t2, ht2, hlast⟩ := HS.out.more (m - 1) (by omega)
          have hp2 : (Tr.mk pa pq :: r)[m]? = some t2 := by
            obtain ⟨j, rfl⟩ : ∃ j, m = j + 1 := ⟨m - 1, by omega⟩
            simpa using ht2
          obtain ⟨A2, n2, c2, x2, y2, tr2, hl2⟩ := HB.out.part HP.out HG.out hbw m t2 hp2
          have HK : Hid (LKeep w.heap.size w P w.heap.size g N cap k m t1 t2 A A2 n c n2 c2 wr) := Lib.hid ⟨hblk, x1, y1, x2, y2, tr1, tr2, HG.out, hall.out, hbw, hbw.size⟩
          have HLA := Lib.hid hlast
          have HKM := Lib.hid hkm
          have hg1 : decide ((1 : Int) < (k : Int)) = true := by simp; omega
          have hwm : IntKind.i64.wrap ((k : Int) - 1) = (m : Int) := by rw [IntWalk.i64_in _ (by omega)]; omega
          have hb0 : (0 : Int) ≤ (k : Int) := by omega
          have hb1 : (k : Int) < (N : Int) := by omega
          have hb2 : (0 : Int) ≤ (m : Int) := by omega
          have hb3 : (m : Int) < (N : Int) := by omega
          clear hlast ht2 hp2 x1 y1 x2 y2 tr1 tr2 hkm
          have C1 : Hid (∀ w', LKeep w.heap.size w P w.heap.size g N cap k m t1 t2 A A2 n c n2 c2 w' → Calls Tryz.prog 104 #[.agg #[.string ⟨t1.atom.toArray⟩, .slice A n c]] w' fun e w2 => e = .returned (.bool (isTy t1)) ∧ LKeep w.heap.size w P w.heap.size g N cap k m t1 t2 A A2 n c n2 c2 w2) :=
            Lib.hid fun w' h => (IH.out t1 HM1.out _ w' P h.tr1 h.all hl1).mono fun _ _ ⟨he, hb⟩ => ⟨he, h.more hb⟩
          have C2 : Hid (∀ w', LKeep w.heap.size w P w.heap.size g N cap k m t1 t2 A A2 n c n2 c2 w' → Calls Tryz.prog 72 #[.agg #[.string ⟨t1.atom.toArray⟩, .slice A n c]] w' fun e w2 => e = .returned (.string ⟨(wrTr t1).toArray⟩) ∧ LKeep w.heap.size w P w.heap.size g N cap k m t1 t2 A A2 n c n2 c2 w2) :=
            Lib.hid fun w' h => (l1Text_any t1 _ w' P h.tr1 h.all hl1).mono fun _ _ ⟨he, hb⟩ => ⟨he, h.more hb⟩
          have C3 : Hid (∀ w', LKeep w.heap.size w P w.heap.size g N cap k m t1 t2 A A2 n c n2 c2 w' → Calls Tryz.prog 72 #[.agg #[.string ⟨t2.atom.toArray⟩, .slice A2 n2 c2]] w' fun e w2 => e = .returned (.string ⟨(wrTr t2).toArray⟩) ∧ LKeep w.heap.size w P w.heap.size g N cap k m t1 t2 A A2 n c n2 c2 w2) :=
            Lib.hid fun w' h => (l1Text_any t2 _ w' P h.tr2 h.all hl2).mono fun _ _ ⟨he, hb⟩ => ⟨he, h.more hb⟩
          have C4 : Hid (∀ w', LKeep w.heap.size w P w.heap.size g N cap k m t1 t2 A A2 n c n2 c2 w' → Calls Tryz.prog 125 #[.string ⟨(wrTr t1).toArray⟩, .string ⟨(wrTr t2).toArray⟩] w' fun e w2 => e = .returned (.bool (decide (wrTr t1 < wrTr t2))) ∧ LKeep w.heap.size w P w.heap.size g N cap k m t1 t2 A A2 n c n2 c2 w2) :=
            Lib.hid fun w' h => (l3Less_any ⟨(wrTr t1).toArray⟩ ⟨(wrTr t2).toArray⟩ w' (by simp [ByteArray.size, maxLen]; omega) (by simp [ByteArray.size, maxLen]; omega)).mono fun _ _ ⟨he, n, hn⟩ => ⟨he, by rw [hn]; exact h.drewN n⟩
          by_cases hL : wrTr t1 < wrTr t2
          · have hLb : decide (wrTr t1 < wrTr t2) = true := decide_eq_true hL
            have HLT := Lib.hid hL
            clear hL
            go_wp2_with fail
            go_region_held3 (fun w' => w'.cell? ⟨w.heap.size, 1, none⟩ = some (.slice (some ⟨g, 0, none⟩) N cap) ∧ w'.cell? ⟨g, k * 2, none⟩ = some (.string ⟨t1.atom.toArray⟩) ∧ w'.cell? ⟨g, k * 2 + 1, none⟩ = some (.slice A n c) ∧ w'.cell? ⟨g, m * 2, none⟩ = some (.string ⟨t2.atom.toArray⟩) ∧ w'.cell? ⟨g, m * 2 + 1, none⟩ = some (.slice A2 n2 c2) ∧ LKeep w.heap.size w P w.heap.size g N cap k m t1 t2 A A2 n c n2 c2 w') (first | exact HK.out.drew.s | exact LKeep.s (by assumption) | exact (LKeep.drew (by assumption)).s) (first | (go_at_call 104; (with_reducible refine (C1.out _ ?_).mono ?_); (first | assumption | exact HK.out.drew); rintro e w4 ⟨rfl, hk4⟩) | (go_at_call 72; (with_reducible refine (C2.out _ ?_).mono ?_); (first | assumption | exact HK.out.drew); rintro e w5 ⟨rfl, hk5⟩) | (go_at_call 72; (with_reducible refine (C3.out _ ?_).mono ?_); (first | assumption | exact HK.out.drew); rintro e w6 ⟨rfl, hk6⟩) | (go_at_call 125; (with_reducible refine (C4.out _ ?_).mono ?_); (first | assumption | exact HK.out.drew); rintro e w7 ⟨rfl, hk7⟩))
            all_goals
              go_wp2
              go_ret
              refine ⟨ret_bool ?_, hk7.below⟩
              rw [HI.out, HS.out.run, HST.out, HLA.out]
              simp [HLT.out]
          · have hLb : decide (wrTr t1 < wrTr t2) = false := decide_eq_false hL
            have HLT := Lib.hid hL
            clear hL
            go_wp2_with fail
            go_region_held3 (fun w' => w'.cell? ⟨w.heap.size, 1, none⟩ = some (.slice (some ⟨g, 0, none⟩) N cap) ∧ w'.cell? ⟨g, k * 2, none⟩ = some (.string ⟨t1.atom.toArray⟩) ∧ w'.cell? ⟨g, k * 2 + 1, none⟩ = some (.slice A n c) ∧ w'.cell? ⟨g, m * 2, none⟩ = some (.string ⟨t2.atom.toArray⟩) ∧ w'.cell? ⟨g, m * 2 + 1, none⟩ = some (.slice A2 n2 c2) ∧ LKeep w.heap.size w P w.heap.size g N cap k m t1 t2 A A2 n c n2 c2 w') (first | exact HK.out.drew.s | exact LKeep.s (by assumption) | exact (LKeep.drew (by assumption)).s) (first | (go_at_call 104; (with_reducible refine (C1.out _ ?_).mono ?_); (first | assumption | exact HK.out.drew); rintro e w4 ⟨rfl, hk4⟩) | (go_at_call 72; (with_reducible refine (C2.out _ ?_).mono ?_); (first | assumption | exact HK.out.drew); rintro e w5 ⟨rfl, hk5⟩) | (go_at_call 72; (with_reducible refine (C3.out _ ?_).mono ?_); (first | assumption | exact HK.out.drew); rintro e w6 ⟨rfl, hk6⟩) | (go_at_call 125; (with_reducible refine (C4.out _ ?_).mono ?_); (first | assumption | exact HK.out.drew); rintro e w7 ⟨rfl, hk7⟩))
            all_goals
              go_wp2
              go_roundw
              case rel =>
                refine ⟨k + 1, wrTr t1, by omega, by omega, by go_num, Lib.hid ⟨?_, fun h => by omega, fun q e => ?_⟩, hk7.below, hk7.box⟩
                · rw [HS.out.run, HST.out, hT, HLA.out]
                  simp [HLT.out]
                · obtain rfl : q = k - 1 := by omega
                  exact ⟨t1, HT1.out, rfl⟩
              case measure => simp [intOf]; omega
        · have HK : Hid (LKeep w.heap.size w P w.heap.size g N cap k k t1 t1 A A n c n c wr) := Lib.hid ⟨hblk, x1, y1, x1, y1, tr1, tr1, HG.out, hall.out, hbw, hbw.size⟩
          have hb0 : (0 : Int) ≤ (k : Int) := by omega
          have hb1 : (k : Int) < (N : Int) := by omega
          clear tr1
          have C1 : Hid (∀ w', LKeep w.heap.size w P w.heap.size g N cap k k t1 t1 A A n c n c w' → Calls Tryz.prog 104 #[.agg #[.string ⟨t1.atom.toArray⟩, .slice A n c]] w' fun e w2 => e = .returned (.bool (isTy t1)) ∧ LKeep w.heap.size w P w.heap.size g N cap k k t1 t1 A A n c n c w2) :=
            Lib.hid fun w' h => (IH.out t1 HM1.out _ w' P h.tr1 h.all hl1).mono fun _ _ ⟨he, hb⟩ => ⟨he, h.more hb⟩
          by_cases hT : isTy t1 = true
          · have hg1 : decide ((1 : Int) < (k : Int)) = false := by simp; have : ¬ 1 < k := fun h => hc3 ⟨hT, h⟩; omega
            have hj1 : ¬ 1 < k := fun h => hc3 ⟨hT, h⟩
            have HK1 : Hid (k ≤ 1) := Lib.hid (by omega)
            clear hc3
            go_wp2_with fail
            refine wp_region_held_drew (S := (fun w' => w'.cell? ⟨w.heap.size, 1, none⟩ = some (.slice (some ⟨g, 0, none⟩) N cap) ∧ w'.cell? ⟨g, k * 2, none⟩ = some (.string ⟨t1.atom.toArray⟩) ∧ w'.cell? ⟨g, k * 2 + 1, none⟩ = some (.slice A n c) ∧ LKeep w.heap.size w P w.heap.size g N cap k k t1 t1 A A n c n c w')) (by kernel_rfl) (HK.out.drew.s1) (fun hHeld => ?_)
            refine wpAnyH_take (i := 0) (v := ?_) rfl (by kernel_rfl) (by kernel_rfl) (by kernel_rfl) (fun _ _ _ h => h) (Or.inl ⟨by kernel_rfl, ?_⟩) (by assumption) ?_
            rotate_left
            · intro w0 hS0; (try dsimp only at hS0); go_simp; (try with_reducible rfl)
            (try simp only [List.getElem_toArray, List.getElem_cons_zero]); (try go_frame)
            refine wpAnyH_take (i := 1) (v := ?_) rfl (by kernel_rfl) (by kernel_rfl) (by kernel_rfl) (fun _ _ _ h => h) (Or.inl ⟨by kernel_rfl, ?_⟩) (by assumption) ?_
            rotate_left
            · intro w0 hS0; (try dsimp only at hS0); go_simp; (try with_reducible rfl)
            (try simp only [List.getElem_toArray, List.getElem_cons_zero, List.getElem_cons_succ]); (try go_frame)
            refine wpAnyH_take (i := 2) (v := ?_) rfl (by kernel_rfl) (by kernel_rfl) (by kernel_rfl) (fun _ _ _ h => h) (Or.inl ⟨by kernel_rfl, ?_⟩) (by assumption) ?_
            rotate_left
            · intro w0 hS0; (try dsimp only at hS0); go_simp; (try with_reducible rfl)
            (try simp only [List.getElem_toArray, List.getElem_cons_zero, List.getElem_cons_succ]); (try go_frame)
            refine wpAnyH_take (i := 3) (v := ?_) rfl (by kernel_rfl) (by kernel_rfl) (by kernel_rfl) (fun _ _ _ h => h) (Or.inl ⟨by kernel_rfl, ?_⟩) (by assumption) ?_
            rotate_left
            · intro w0 hS0; (try dsimp only at hS0); go_simp; (try with_reducible rfl)
            (try simp only [List.getElem_toArray, List.getElem_cons_zero, List.getElem_cons_succ]); (try go_frame)
            refine wpAnyH_take (i := 4) (v := ?_) rfl (by kernel_rfl) (by kernel_rfl) (by kernel_rfl) (fun _ _ _ h => h) (Or.inl ⟨by kernel_rfl, ?_⟩) (by assumption) ?_
            rotate_left
            · intro w0 hS0; (try dsimp only at hS0); go_simp; (try with_reducible rfl)
            (try simp only [List.getElem_toArray, List.getElem_cons_zero, List.getElem_cons_succ]); (try go_frame)
            refine wpAnyH_ready (rs := [5]) (by kernel_rfl) (by simp) ?_
            refine AllReadyH.cons rfl (fun K hK => ?_) AllReadyH.nil
            go_simp
            (go_at_call 104; (with_reducible refine (C1.out _ ?_).mono ?_); (first | assumption | exact HK.out.drew); rintro e w4 ⟨rfl, hk4⟩)
            go_wp2_with fail
            refine hK.out _ _ (hk4.s1) (fun hHeld => ?_)
            clear hK K
            (try simp only [List.getElem_toArray, List.getElem_cons_zero, List.getElem_cons_succ]); (try go_frame)
            refine wpAnyH_take (i := 6) (v := ?_) rfl (by kernel_rfl) (by kernel_rfl) (by kernel_rfl) (fun _ _ _ h => h) (Or.inl ⟨by kernel_rfl, ?_⟩) (by assumption) ?_
            rotate_left
            · intro w0 hS0; (try dsimp only at hS0); go_simp; (try with_reducible rfl)
            (try simp only [List.getElem_toArray, List.getElem_cons_zero, List.getElem_cons_succ]); (try go_frame)
            refine wpAnyH_take (i := 7) (v := ?_) rfl (by kernel_rfl) (by kernel_rfl) (by kernel_rfl) (fun _ _ _ h => h) (Or.inl ⟨by kernel_rfl, ?_⟩) (by assumption) ?_
            rotate_left
            · intro w0 hS0; (try dsimp only at hS0); go_simp; (try with_reducible rfl)
            (try simp only [List.getElem_toArray, List.getElem_cons_zero, List.getElem_cons_succ]); (try go_frame)
            refine wpAnyH_take (i := 8) (v := ?_) rfl (by kernel_rfl) (by kernel_rfl) (by kernel_rfl) (fun _ _ _ h => h) (Or.inl ⟨by kernel_rfl, ?_⟩) (by assumption) ?_
            rotate_left
            · intro w0 hS0; (try dsimp only at hS0); go_simp; (try with_reducible rfl)
            (try simp only [List.getElem_toArray, List.getElem_cons_zero, List.getElem_cons_succ]); (try go_frame)
            refine wpAnyH_take (i := 9) (v := ?_) rfl (by kernel_rfl) (by kernel_rfl) (by kernel_rfl) (fun _ _ _ h => h) (Or.inl ⟨by kernel_rfl, ?_⟩) (by assumption) ?_
            rotate_left
            · intro w0 hS0; (try dsimp only at hS0); go_simp; (try with_reducible rfl)
            (try simp only [List.getElem_toArray, List.getElem_cons_zero, List.getElem_cons_succ]); (try go_frame)
            refine wpAnyH_take (i := 10) (v := ?_) rfl (by kernel_rfl) (by kernel_rfl) (by kernel_rfl) (fun _ _ _ h => h) (Or.inl ⟨by kernel_rfl, ?_⟩) (by assumption) ?_
            rotate_left
            · intro w0 hS0; (try dsimp only at hS0); go_simp; (try with_reducible rfl)
            (try simp only [List.getElem_toArray, List.getElem_cons_zero, List.getElem_cons_succ]); (try go_frame)
            refine wpAnyH_take (i := 11) (v := undef) rfl (by kernel_rfl) (by kernel_rfl) (by kernel_rfl) (fun _ _ _ h => h) (Or.inr ⟨by kernel_rfl, rfl⟩) (by assumption) ?_
            (try simp only [List.getElem_toArray, List.getElem_cons_zero, List.getElem_cons_succ]); (try go_frame)
            refine wpAnyH_take (i := 12) (v := undef) rfl (by kernel_rfl) (by kernel_rfl) (by kernel_rfl) (fun _ _ _ h => h) (Or.inr ⟨by kernel_rfl, rfl⟩) (by assumption) ?_
            (try simp only [List.getElem_toArray, List.getElem_cons_zero, List.getElem_cons_succ]); (try go_frame)
            refine wpAnyH_take (i := 13) (v := undef) rfl (by kernel_rfl) (by kernel_rfl) (by kernel_rfl) (fun _ _ _ h => h) (Or.inr ⟨by kernel_rfl, rfl⟩) (by assumption) ?_
            (try simp only [List.getElem_toArray, List.getElem_cons_zero, List.getElem_cons_succ]); (try go_frame)
            refine wpAnyH_take (i := 14) (v := undef) rfl (by kernel_rfl) (by kernel_rfl) (by kernel_rfl) (fun _ _ _ h => h) (Or.inr ⟨by kernel_rfl, rfl⟩) (by assumption) ?_
            (try simp only [List.getElem_toArray, List.getElem_cons_zero, List.getElem_cons_succ]); (try go_frame)
            refine wpAnyH_take (i := 15) (v := undef) rfl (by kernel_rfl) (by kernel_rfl) (by kernel_rfl) (fun _ _ _ h => h) (Or.inr ⟨by kernel_rfl, rfl⟩) (by assumption) ?_
            (try simp only [List.getElem_toArray, List.getElem_cons_zero, List.getElem_cons_succ]); (try go_frame)
            refine wpAnyH_take (i := 16) (v := undef) rfl (by kernel_rfl) (by kernel_rfl) (by kernel_rfl) (fun _ _ _ h => h) (Or.inr ⟨by kernel_rfl, rfl⟩) (by assumption) ?_
            (try simp only [List.getElem_toArray, List.getElem_cons_zero, List.getElem_cons_succ]); (try go_frame)
            refine wpAnyH_take (i := 17) (v := undef) rfl (by kernel_rfl) (by kernel_rfl) (by kernel_rfl) (fun _ _ _ h => h) (Or.inr ⟨by kernel_rfl, rfl⟩) (by assumption) ?_
            (try simp only [List.getElem_toArray, List.getElem_cons_zero, List.getElem_cons_succ]); (try go_frame)
            refine wpAnyH_take (i := 18) (v := undef) rfl (by kernel_rfl) (by kernel_rfl) (by kernel_rfl) (fun _ _ _ h => h) (Or.inr ⟨by kernel_rfl, rfl⟩) (by assumption) ?_
            (try simp only [List.getElem_toArray, List.getElem_cons_zero, List.getElem_cons_succ]); (try go_frame)
            refine wpAnyH_take (i := 19) (v := undef) rfl (by kernel_rfl) (by kernel_rfl) (by kernel_rfl) (fun _ _ _ h => h) (Or.inr ⟨by kernel_rfl, rfl⟩) (by assumption) ?_
            (try simp only [List.getElem_toArray, List.getElem_cons_zero, List.getElem_cons_succ]); (try go_frame)
            refine wpAnyH_take (i := 20) (v := undef) rfl (by kernel_rfl) (by kernel_rfl) (by kernel_rfl) (fun _ _ _ h => h) (Or.inr ⟨by kernel_rfl, rfl⟩) (by assumption) ?_
            (try simp only [List.getElem_toArray, List.getElem_cons_zero, List.getElem_cons_succ]); (try go_frame)
            refine wpAnyH_take (i := 21) (v := undef) rfl (by kernel_rfl) (by kernel_rfl) (by kernel_rfl) (fun _ _ _ h => h) (Or.inr ⟨by kernel_rfl, rfl⟩) (by assumption) ?_
            (try simp only [List.getElem_toArray, List.getElem_cons_zero, List.getElem_cons_succ]); (try go_frame)
            refine wpAnyH_take (i := 22) (v := undef) rfl (by kernel_rfl) (by kernel_rfl) (by kernel_rfl) (fun _ _ _ h => h) (Or.inr ⟨by kernel_rfl, rfl⟩) (by assumption) ?_
            (try simp only [List.getElem_toArray, List.getElem_cons_zero, List.getElem_cons_succ]); (try go_frame)
            refine wpAnyH_take (i := 23) (v := undef) rfl (by kernel_rfl) (by kernel_rfl) (by kernel_rfl) (fun _ _ _ h => h) (Or.inr ⟨by kernel_rfl, rfl⟩) (by assumption) ?_
            (try simp only [List.getElem_toArray, List.getElem_cons_zero, List.getElem_cons_succ]); (try go_frame)
            refine wpAnyH_take (i := 24) (v := undef) rfl (by kernel_rfl) (by kernel_rfl) (by kernel_rfl) (fun _ _ _ h => h) (Or.inr ⟨by kernel_rfl, rfl⟩) (by assumption) ?_
            (try simp only [List.getElem_toArray, List.getElem_cons_zero, List.getElem_cons_succ]); (try go_frame)
            refine wpAnyH_take (i := 25) (v := ?_) rfl (by kernel_rfl) (by kernel_rfl) (by kernel_rfl) (fun _ _ _ h => h) (Or.inl ⟨by kernel_rfl, ?_⟩) (by assumption) ?_
            rotate_left
            · intro w0 hS0; (try dsimp only at hS0); go_simp; (try with_reducible rfl)
            (try simp only [List.getElem_toArray, List.getElem_cons_zero, List.getElem_cons_succ]); (try go_frame)
            refine wpAnyH_take (i := 26) (v := ?_) rfl (by kernel_rfl) (by kernel_rfl) (by kernel_rfl) (fun _ _ _ h => h) (Or.inl ⟨by kernel_rfl, ?_⟩) (by assumption) ?_
            rotate_left
            · intro w0 hS0; (try dsimp only at hS0); go_simp; (try with_reducible rfl)
            (try simp only [List.getElem_toArray, List.getElem_cons_zero, List.getElem_cons_succ]); (try go_frame)
            refine wpAnyH_done (by kernel_rfl) ?_ _
            all_goals
              go_wp2
              go_roundw
              case rel =>
                refine ⟨k + 1, wrTr t1, by omega, by omega, by go_num, Lib.hid ⟨?_, fun h => by omega, fun q e => ?_⟩, hk4.below, hk4.box⟩
                · rw [HS.out.run, HST.out, hT, HS.out.one HK1.out]
                  simp
                · obtain rfl : q = k - 1 := by omega
                  exact ⟨t1, HT1.out, rfl⟩
              case measure => simp [intOf]; omega
          · have hT0 : isTy t1 = false := by simpa using hT
            clear hT hc3
            go_wp2_with fail
            refine wp_region_held_drew (S := (fun w' => w'.cell? ⟨w.heap.size, 1, none⟩ = some (.slice (some ⟨g, 0, none⟩) N cap) ∧ w'.cell? ⟨g, k * 2, none⟩ = some (.string ⟨t1.atom.toArray⟩) ∧ w'.cell? ⟨g, k * 2 + 1, none⟩ = some (.slice A n c) ∧ LKeep w.heap.size w P w.heap.size g N cap k k t1 t1 A A n c n c w')) (by kernel_rfl) (HK.out.drew.s1) (fun hHeld => ?_)
            refine wpAnyH_take (i := 0) (v := ?_) rfl (by kernel_rfl) (by kernel_rfl) (by kernel_rfl) (fun _ _ _ h => h) (Or.inl ⟨by kernel_rfl, ?_⟩) (by assumption) ?_
            rotate_left
            · intro w0 hS0; (try dsimp only at hS0); go_simp; (try with_reducible rfl)
            (try simp only [List.getElem_toArray, List.getElem_cons_zero]); (try go_frame)
            refine wpAnyH_take (i := 1) (v := ?_) rfl (by kernel_rfl) (by kernel_rfl) (by kernel_rfl) (fun _ _ _ h => h) (Or.inl ⟨by kernel_rfl, ?_⟩) (by assumption) ?_
            rotate_left
            · intro w0 hS0; (try dsimp only at hS0); go_simp; (try with_reducible rfl)
            (try simp only [List.getElem_toArray, List.getElem_cons_zero, List.getElem_cons_succ]); (try go_frame)
            refine wpAnyH_take (i := 2) (v := ?_) rfl (by kernel_rfl) (by kernel_rfl) (by kernel_rfl) (fun _ _ _ h => h) (Or.inl ⟨by kernel_rfl, ?_⟩) (by assumption) ?_
            rotate_left
            · intro w0 hS0; (try dsimp only at hS0); go_simp; (try with_reducible rfl)
            (try simp only [List.getElem_toArray, List.getElem_cons_zero, List.getElem_cons_succ]); (try go_frame)
            refine wpAnyH_take (i := 3) (v := ?_) rfl (by kernel_rfl) (by kernel_rfl) (by kernel_rfl) (fun _ _ _ h => h) (Or.inl ⟨by kernel_rfl, ?_⟩) (by assumption) ?_
            rotate_left
            · intro w0 hS0; (try dsimp only at hS0); go_simp; (try with_reducible rfl)
            (try simp only [List.getElem_toArray, List.getElem_cons_zero, List.getElem_cons_succ]); (try go_frame)
            refine wpAnyH_take (i := 4) (v := ?_) rfl (by kernel_rfl) (by kernel_rfl) (by kernel_rfl) (fun _ _ _ h => h) (Or.inl ⟨by kernel_rfl, ?_⟩) (by assumption) ?_
            rotate_left
            · intro w0 hS0; (try dsimp only at hS0); go_simp; (try with_reducible rfl)
            (try simp only [List.getElem_toArray, List.getElem_cons_zero, List.getElem_cons_succ]); (try go_frame)
            refine wpAnyH_ready (rs := [5]) (by kernel_rfl) (by simp) ?_
            refine AllReadyH.cons rfl (fun K hK => ?_) AllReadyH.nil
            go_simp
            (go_at_call 104; (with_reducible refine (C1.out _ ?_).mono ?_); (first | assumption | exact HK.out.drew); rintro e w4 ⟨rfl, hk4⟩)
            go_wp2_with fail
            refine hK.out _ _ (hk4.s1) (fun hHeld => ?_)
            clear hK K
            (try simp only [List.getElem_toArray, List.getElem_cons_zero, List.getElem_cons_succ]); (try go_frame)
            refine wpAnyH_take (i := 6) (v := ?_) rfl (by kernel_rfl) (by kernel_rfl) (by kernel_rfl) (fun _ _ _ h => h) (Or.inl ⟨by kernel_rfl, ?_⟩) (by assumption) ?_
            rotate_left
            · intro w0 hS0; (try dsimp only at hS0); go_simp; (try with_reducible rfl)
            (try simp only [List.getElem_toArray, List.getElem_cons_zero, List.getElem_cons_succ]); (try go_frame)
            refine wpAnyH_take (i := 7) (v := ?_) rfl (by kernel_rfl) (by kernel_rfl) (by kernel_rfl) (fun _ _ _ h => h) (Or.inl ⟨by kernel_rfl, ?_⟩) (by assumption) ?_
            rotate_left
            · intro w0 hS0; (try dsimp only at hS0); go_simp; (try with_reducible rfl)
            (try simp only [List.getElem_toArray, List.getElem_cons_zero, List.getElem_cons_succ]); (try go_frame)
            refine wpAnyH_take (i := 8) (v := undef) rfl (by kernel_rfl) (by kernel_rfl) (by kernel_rfl) (fun _ _ _ h => h) (Or.inr ⟨by kernel_rfl, rfl⟩) (by assumption) ?_
            (try simp only [List.getElem_toArray, List.getElem_cons_zero, List.getElem_cons_succ]); (try go_frame)
            refine wpAnyH_take (i := 9) (v := undef) rfl (by kernel_rfl) (by kernel_rfl) (by kernel_rfl) (fun _ _ _ h => h) (Or.inr ⟨by kernel_rfl, rfl⟩) (by assumption) ?_
            (try simp only [List.getElem_toArray, List.getElem_cons_zero, List.getElem_cons_succ]); (try go_frame)
            refine wpAnyH_take (i := 10) (v := undef) rfl (by kernel_rfl) (by kernel_rfl) (by kernel_rfl) (fun _ _ _ h => h) (Or.inr ⟨by kernel_rfl, rfl⟩) (by assumption) ?_
            (try simp only [List.getElem_toArray, List.getElem_cons_zero, List.getElem_cons_succ]); (try go_frame)
            refine wpAnyH_take (i := 11) (v := undef) rfl (by kernel_rfl) (by kernel_rfl) (by kernel_rfl) (fun _ _ _ h => h) (Or.inr ⟨by kernel_rfl, rfl⟩) (by assumption) ?_
            (try simp only [List.getElem_toArray, List.getElem_cons_zero, List.getElem_cons_succ]); (try go_frame)
            refine wpAnyH_take (i := 12) (v := undef) rfl (by kernel_rfl) (by kernel_rfl) (by kernel_rfl) (fun _ _ _ h => h) (Or.inr ⟨by kernel_rfl, rfl⟩) (by assumption) ?_
            (try simp only [List.getElem_toArray, List.getElem_cons_zero, List.getElem_cons_succ]); (try go_frame)
            refine wpAnyH_take (i := 13) (v := undef) rfl (by kernel_rfl) (by kernel_rfl) (by kernel_rfl) (fun _ _ _ h => h) (Or.inr ⟨by kernel_rfl, rfl⟩) (by assumption) ?_
            (try simp only [List.getElem_toArray, List.getElem_cons_zero, List.getElem_cons_succ]); (try go_frame)
            refine wpAnyH_take (i := 14) (v := undef) rfl (by kernel_rfl) (by kernel_rfl) (by kernel_rfl) (fun _ _ _ h => h) (Or.inr ⟨by kernel_rfl, rfl⟩) (by assumption) ?_
            (try simp only [List.getElem_toArray, List.getElem_cons_zero, List.getElem_cons_succ]); (try go_frame)
            refine wpAnyH_take (i := 15) (v := undef) rfl (by kernel_rfl) (by kernel_rfl) (by kernel_rfl) (fun _ _ _ h => h) (Or.inr ⟨by kernel_rfl, rfl⟩) (by assumption) ?_
            (try simp only [List.getElem_toArray, List.getElem_cons_zero, List.getElem_cons_succ]); (try go_frame)
            refine wpAnyH_take (i := 16) (v := undef) rfl (by kernel_rfl) (by kernel_rfl) (by kernel_rfl) (fun _ _ _ h => h) (Or.inr ⟨by kernel_rfl, rfl⟩) (by assumption) ?_
            (try simp only [List.getElem_toArray, List.getElem_cons_zero, List.getElem_cons_succ]); (try go_frame)
            refine wpAnyH_take (i := 17) (v := undef) rfl (by kernel_rfl) (by kernel_rfl) (by kernel_rfl) (fun _ _ _ h => h) (Or.inr ⟨by kernel_rfl, rfl⟩) (by assumption) ?_
            (try simp only [List.getElem_toArray, List.getElem_cons_zero, List.getElem_cons_succ]); (try go_frame)
            refine wpAnyH_take (i := 18) (v := undef) rfl (by kernel_rfl) (by kernel_rfl) (by kernel_rfl) (fun _ _ _ h => h) (Or.inr ⟨by kernel_rfl, rfl⟩) (by assumption) ?_
            (try simp only [List.getElem_toArray, List.getElem_cons_zero, List.getElem_cons_succ]); (try go_frame)
            refine wpAnyH_take (i := 19) (v := undef) rfl (by kernel_rfl) (by kernel_rfl) (by kernel_rfl) (fun _ _ _ h => h) (Or.inr ⟨by kernel_rfl, rfl⟩) (by assumption) ?_
            (try simp only [List.getElem_toArray, List.getElem_cons_zero, List.getElem_cons_succ]); (try go_frame)
            refine wpAnyH_take (i := 20) (v := undef) rfl (by kernel_rfl) (by kernel_rfl) (by kernel_rfl) (fun _ _ _ h => h) (Or.inr ⟨by kernel_rfl, rfl⟩) (by assumption) ?_
            (try simp only [List.getElem_toArray, List.getElem_cons_zero, List.getElem_cons_succ]); (try go_frame)
            refine wpAnyH_take (i := 21) (v := undef) rfl (by kernel_rfl) (by kernel_rfl) (by kernel_rfl) (fun _ _ _ h => h) (Or.inr ⟨by kernel_rfl, rfl⟩) (by assumption) ?_
            (try simp only [List.getElem_toArray, List.getElem_cons_zero, List.getElem_cons_succ]); (try go_frame)
            refine wpAnyH_take (i := 22) (v := undef) rfl (by kernel_rfl) (by kernel_rfl) (by kernel_rfl) (fun _ _ _ h => h) (Or.inr ⟨by kernel_rfl, rfl⟩) (by assumption) ?_
            (try simp only [List.getElem_toArray, List.getElem_cons_zero, List.getElem_cons_succ]); (try go_frame)
            refine wpAnyH_take (i := 23) (v := undef) rfl (by kernel_rfl) (by kernel_rfl) (by kernel_rfl) (fun _ _ _ h => h) (Or.inr ⟨by kernel_rfl, rfl⟩) (by assumption) ?_
            (try simp only [List.getElem_toArray, List.getElem_cons_zero, List.getElem_cons_succ]); (try go_frame)
            refine wpAnyH_take (i := 24) (v := undef) rfl (by kernel_rfl) (by kernel_rfl) (by kernel_rfl) (fun _ _ _ h => h) (Or.inr ⟨by kernel_rfl, rfl⟩) (by assumption) ?_
            (try simp only [List.getElem_toArray, List.getElem_cons_zero, List.getElem_cons_succ]); (try go_frame)
            refine wpAnyH_take (i := 25) (v := undef) rfl (by kernel_rfl) (by kernel_rfl) (by kernel_rfl) (fun _ _ _ h => h) (Or.inr ⟨by kernel_rfl, rfl⟩) (by assumption) ?_
            (try simp only [List.getElem_toArray, List.getElem_cons_zero, List.getElem_cons_succ]); (try go_frame)
            refine wpAnyH_take (i := 26) (v := ?_) rfl (by kernel_rfl) (by kernel_rfl) (by kernel_rfl) (fun _ _ _ h => h) (Or.inl ⟨by kernel_rfl, ?_⟩) (by assumption) ?_
            rotate_left
            · intro w0 hS0; (try dsimp only at hS0); go_simp; (try with_reducible rfl)
            (try simp only [List.getElem_toArray, List.getElem_cons_zero, List.getElem_cons_succ]); (try go_frame)
            refine wpAnyH_done (by kernel_rfl) ?_ _
            all_goals
              go_wp2
              go_ret
              refine ⟨ret_bool ?_, hk4.below⟩
              rw [HI.out, HS.out.run, HST.out, hT0]
              simp
      · go_wp2
        go_ret
        refine ⟨ret_bool ?_, hbw⟩
        rw [HI.out, decide_eq_true HM.out, HS.out.run, isTys_end _ _ _ (by have := HN.out; omega)]
        rfl
  · have hmb : (pa != [109]) = true := by simpa using hm
    have hmb2 : (pa == [109]) = false := by simpa using hm
    have HM := Lib.hid hm
    clear hm
    go_enter Tryz.func124, Tryz.ntmps124
    go_wp2_with fail
    refine (HH.out _).mono ?_
    rintro e w1 ⟨rfl, hb1⟩
    have hB1 : Below w.heap.size w w1 := ((Below.refl _ _).alloc (Nat.le_refl _) _).trans (hb1.mono (by simp))
    go_wp2_with fail
    go_ret
    exact ⟨ret_bool (by rw [HI.out, decide_eq_false HM.out]; rfl), hB1⟩
theorem ty_bg_any : ∀ t : Tr, TySaid t ∧ BgSaid t := by
  intro t
  refine Tr.all (p := fun t => TySaid t ∧ BgSaid t) ?_ t
  intro a ps ih
  have h1 : BgSaid (.mk a ps) := by
    by_cases h : a = [] ∧ ps ≠ []
    · obtain ⟨rfl, hne⟩ := h
      match ps, hne with
      | .mk pa pq :: r, _ => exact l3IsBag_yes pa pq r fun t ht => (ih t (List.mem_cons_of_mem _ ht)).1
    · exact l3IsBag_no a ps h
  refine ⟨?_, h1⟩
  by_cases ha : a = []
  · subst ha
    exact l3Is_list ps (fun t ht => (ih t ht).2) (fun t ht => (ih t ht).1)
  · exact l3Is_atom a ps ha
end Go.Proofs.YtnnnphammfeemaaGreat
