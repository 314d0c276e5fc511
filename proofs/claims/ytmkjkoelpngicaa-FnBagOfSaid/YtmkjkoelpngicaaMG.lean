/- The model's functions of chapter 3: the parts of a type, the types of a bag, how often one is there. -/
import Derived.Test.YtmkjkoelpngicaaMF
namespace Go.Proofs.Ytmkjkoelpngicaa
set_option linter.unusedVariables false
open Go.RowKit

theorem row_low {w : World} {b b' e size n : Nat} {v : Value} {xs : List Value} (h : w.ownsRow b e size v n xs) (hb : b' ≤ b) : w.ownsRow b' e size v n xs := by
  refine ⟨h.1, ?_⟩
  rcases h.2 with hn | ⟨g, cap, cur, hv, hbg, rest⟩
  · exact .inl hn
  · exact .inr ⟨g, cap, cur, hv, Nat.le_trans hb hbg, rest⟩
/-- Two texts and whether there are such. -/
def tx2S (o : Option (List UInt8 × List UInt8)) (e : Ending) : Prop := e = .returned (.tuple #[.string ⟨((o.map (·.1)).getD []).toArray⟩, .string ⟨((o.map (·.2)).getD []).toArray⟩, .bool o.isSome])
/-- A list of texts that the call owns, not nil. -/
def LsPost (l : List (List UInt8)) (w : World) (e : Ending) (w' : World) : Prop :=
  ∃ g c, e = .returned (.slice (some ⟨g, 0, none⟩) l.length c) ∧ SRow w' w.heap.size (.slice (some ⟨g, 0, none⟩) l.length c) l ∧ Below w.heap.size w w'
theorem Try.infoS' : (Try.prog.info? 9).map (fun i => (i.zero, i.size, i.bytes)) = some (some (.string ⟨#[]⟩), 1, 16) := by kernel_rfl

set_option maxRecDepth 100000 in
set_option maxHeartbeats 2000000 in
theorem l3Types_any (t : Tr) (hw : Wf t) (hbg : isBag t = true) (hl : (wrTr t).length ≤ 8000) (v : Value) (w : World) (P : Nat → Prop) (ht : TAt w P t v) (hP : ∀ b, P b → b < w.heap.size) :
    Calls Try.prog 46 #[v] w (LsPost (bagL t) w) := by
  obtain ⟨i0, hinf, hz0, hzs, hzb⟩ := info_parts Try.infoS'
  obtain ⟨r, rfl, _, _⟩ := bag_form t hw hbg
  obtain ⟨vp, rfl, hle, hle2, ⟨h0, _⟩ | ⟨_, g, cap, xs, rfl, hcap, hPg, hc, hvs⟩⟩ := ht.form
  · cases h0
  obtain ⟨N, hN⟩ : ∃ N, (Tr.mk [109] [] :: r).length = N := ⟨_, rfl⟩
  have HB : Hid (BgIn w P g N (Tr.mk [109] [] :: r) xs) := Lib.hid ⟨hc, hvs, hN, fun u hu => by have := wrTr_part u _ hu; omega⟩
  have HN : Hid (r.length + 1 = N) := Lib.hid hN
  have HP := Lib.hid hP
  have HG := Lib.hid hPg
  have HL := Lib.hid (show bagL (.mk [] (.mk [109] [] :: r)) = r.map wrTr from rfl)
  rw [hN] at hle2 hcap ⊢
  rw [HL.out]
  clear ht hP hc hvs hw hbg hN hPg
  go_enter Try.func46, Try.ntmps46
  go_wp2_with fail
  go_loopw [3, 4] (fun ov i wr => ∃ (k m g0 c0 : Nat), 1 ≤ k ∧ k ≤ N ∧ m < 8000 ∧ i = .int .i64 (k : Nat) ∧ ov = .slice (some ⟨g0, 0, none⟩) m c0 ∧ Hid (k = m + 1) ∧ Hid (wr.ownsRow w.heap.size 9 1 (.slice (some ⟨g0, 0, none⟩) m c0) m (((r.take m).map wrTr).map strV)) ∧ Hid (w.heap.size < g0) ∧ Below w.heap.size w wr ∧ Blk wr w.heap.size 43 #[.string ⟨#[]⟩, .slice (some ⟨g, 0, none⟩) N cap]) (fun _ i _ => N - (intOf i).toNat)
  case atStart =>
    refine ⟨1, 0, w.heap.size + 1, 0, by omega, by have := HN.out; omega, by omega, rfl, rfl, Lib.hid rfl, Lib.hid ?_, Lib.hid (by omega), ((Below.refl _ _).alloc (Nat.le_refl _) _).alloc (by simp) _, (Blk.new _ _ _).alloc _⟩
    have h := World.ownsRow_made (base := w.heap.size) (e := 9) (size := 1) (w.alloc (.cells #[.string ⟨#[]⟩, .slice (some ⟨g, 0, none⟩) N cap] 43)) #[] 0 (by simp) (Nat.zero_le _) rfl
    simpa using h
  case round =>
    obtain ⟨k, m, g0, c0, hk1, hkN, hm8, rfl, rfl, HKM, HO, HG0, hbw, hblk⟩ := hrel
    have r1 := hblk.cell 1
    have hlt := hblk.lt
    have hzw := hbw.size
    simp at r1
    by_cases hkl : k < N
    · have hkm := HKM.out
      obtain ⟨t1, ht1⟩ : ∃ t1, r[m]? = some t1 := ⟨r[m]'(by have := HN.out; omega), by simp⟩
      have hp1 : (Tr.mk [109] [] :: r)[k]? = some t1 := by rw [hkm]; simpa using ht1
      obtain ⟨A, n, c, x1, y1, tr1, hl1⟩ := HB.out.part HP.out HG.out hbw k t1 hp1
      have HT1 := Lib.hid tr1
      have HTK := Lib.hid (show (r.take (m + 1)).map wrTr = (r.take m).map wrTr ++ [wrTr t1] by rw [List.take_add_one, ht1, List.map_append]; rfl)
      have hall : Hid (∀ q, P q → q < wr.heap.size) := Lib.hid fun q hq => by have := HP.out q hq; omega
      clear ht1 hp1 tr1 hkm
      go_wp2_with fail
      refine (l1Text_any t1 _ _ P HT1.out hall.out hl1).mono ?_
      rintro e w4 ⟨rfl, hb4⟩
      have hz4 := hb4.size
      have HO4 := Lib.hid (HO.out.kept (grown_of_below hb4 none) (.inr (by simp [Value.ownBlock])))
      have hB4 := hbw.trans (hb4.mono (by omega))
      have hblk4 := hblk.below hb4 hlt
      clear hb4
      go_wp2_with (first
        | (at_builtin
           refine wpList_append_own_at _ rfl (.tmp 13) (.tmp 20) 23 rfl w.heap.size 9 i0 (.string ⟨#[]⟩) 1 16 Try.underlying23 hinf hz0 hzs hzb rfl (by decide) (.slice (some ⟨g0, 0, none⟩) m c0) m (((r.take m).map wrTr).map strV) rfl (HO4.out.alloc _) ⟨w4.heap.size, 0, none⟩ 1 1 [.string ⟨(wrTr t1).toArray⟩] rfl rfl (cell_one_new _ _ _) ?_ ?_ ?_ ?_ ?_
           · intro u hu
             simp at hu
             subst hu
             rfl
           · unfold maxLen; omega
           · omega
           · simp; omega
           intro v2 w5 hown5 hg5 hnil5 hat5')
        | fail)
      have hsh : ∃ g6 c6, v2 = .slice (some ⟨g6, 0, none⟩) (m + 1) c6 := by
        rcases hown5.2 with ⟨_, h⟩ | ⟨g6, c6, cur, hv, _⟩
        · omega
        · exact ⟨g6, c6, hv⟩
      obtain ⟨g6, c6, hv2⟩ := hsh
      subst hv2
      have hz5 := hg5.size
      simp at hz5
      go_roundw
      case rel =>
        have hg6 : w.heap.size < g6 := by
          rcases hat5' with h | h
          · have : g6 = g0 := by simpa [Value.ownBlock] using h
            rw [this]; exact HG0.out
          · have : g6 = w4.heap.size + 1 := by simpa [Value.ownBlock] using h
            omega
        refine ⟨k + 1, m + 1, g6, c6, by omega, by omega, by have := HKM.out; omega, by go_num, rfl, Lib.hid (by have := HKM.out; omega), Lib.hid ?_, Lib.hid hg6, ?_, ?_⟩
        · rw [HTK.out, List.map_append]
          exact hown5
        · exact (hB4.alloc (by omega) _).grown hg5 (by simp; omega) (fun q e => by have := (HO4.out.lt q e).1; omega)
        · exact (hblk4.alloc _).grown hg5 (fun e => by
            have h1 := HG0.out
            have : w.heap.size = g0 := by simpa [Value.ownBlock] using e
            omega)
      case measure => simp [intOf]; omega
    · have hml : m = (r.map wrTr).length := by have := HN.out; have := HKM.out; simp; omega
      have HML := Lib.hid hml
      clear hml
      go_wp2_with fail
      go_ret
      refine ⟨g0, c0, by rw [HML.out]; rfl, ?_, hbw⟩
      have h1 := HO.out
      have h2 : (r.take m).map wrTr = r.map wrTr := by rw [List.take_of_length_le (by have := HN.out; have := HKM.out; omega)]
      rw [h2, HML.out] at h1
      exact h1

set_option maxRecDepth 100000 in
theorem specBagTypes_any (s : ByteArray) (w : World) (hm : s.size ≤ maxLen) :
    Calls Try.prog 23 #[.string s] w fun e w' => ∃ v, e = .returned (.tuple #[v, .bool (typesR s.data.toList).isSome]) ∧ SRow w' w.heap.size v ((typesR s.data.toList).getD []) ∧ Below w.heap.size w w' := by
  go_enter Try.func23, Try.ntmps23
  go_wp2_with fail
  refine (l3Bag_any s _ hm).mono ?_
  intro e w1 h1
  obtain ⟨x1, A1, n1, c1, q1, rfl, hq1, ht1, hb1⟩ := h1.two
  have hz1 := hb1.size
  have HT1 := Lib.hid ht1
  have HB1 := Lib.hid hb1
  cases hr : rdBg s.data.toList with
  | some t =>
    have hq : q1 = true := by rw [hq1, hr]; rfl
    subst hq
    obtain ⟨hrt, hw, hi, _, he, _⟩ := rdBg_spec _ _ hr
    have hTA := (HT1.out t hr).alloc (fun q hq => hq.2) (.cells #[.string x1, .slice A1 n1 c1] 43)
    have HC := Lib.hid (l3Types_any t hw hi (by rw [he]; exact (rdText_ok _ _ hrt).2.2) _ _ _ hTA (fun q hq => by have := hq.2; simp; omega))
    have HR : Hid (typesR s.data.toList = some (bagL t)) := Lib.hid (by unfold typesR; rw [hr]; rfl)
    clear h1 hq1 ht1 hb1 hrt hw hi he hTA hr
    go_wp2_with fail
    refine HC.out.mono ?_
    rintro e w2 ⟨g, c, rfl, hrow, hb2⟩
    have hz2 := hb2.size
    simp at hz2
    have HROW := Lib.hid hrow
    have HB2 := Lib.hid ((HB1.out.alloc hz1 (.cells #[.string x1, .slice A1 n1 c1] 43)).trans (hb2.mono (by simp; omega)))
    clear hrow hb2
    go_wp2_with fail
    go_ret2
    refine ⟨_, by rw [HR.out]; rfl, ?_, HB2.out⟩
    rw [HR.out]
    exact row_low HROW.out (by simp; omega)
  | none =>
    have hq : q1 = false := by rw [hq1, hr]; rfl
    subst hq
    have HR : Hid (typesR s.data.toList = none) := Lib.hid (by unfold typesR; rw [hr]; rfl)
    clear h1 hq1 ht1 hb1 hr
    go_wp2_with fail
    go_ret2
    refine ⟨_, by rw [HR.out]; rfl, ?_, ((HB1.out.alloc hz1 _).alloc (by simp; omega) _)⟩
    rw [HR.out]
    have h := World.ownsRow_made (base := w.heap.size) (e := 9) (size := 1) (w1.alloc (.cells #[.string x1, .slice A1 n1 c1] 43)) #[] 0 (by simp; omega) (Nat.zero_le _) rfl
    unfold SRow
    simpa using h

set_option maxRecDepth 100000 in
set_option maxHeartbeats 1000000 in
theorem specTypeParts_any (s : ByteArray) (w : World) (hm : s.size ≤ maxLen) :
    Calls Try.prog 33 #[.string s] w fun e w' => tx2S (partsR s.data.toList) e ∧ Below w.heap.size w w' := by
  go_enter Try.func33, Try.ntmps33
  go_wp2_with fail
  refine (l3Type_any s _ hm).mono ?_
  rintro e w1 ⟨hb1, ⟨t, v, hr, rfl, ht⟩ | ⟨hr, x1, A1, n1, c1, rfl⟩⟩
  · obtain ⟨hrt, hw, hi, _, he, ho⟩ := rdTy_spec _ _ hr
    have hz1 := hb1.size
    obtain ⟨a, ps⟩ := t
    by_cases ha : a = []
    · subst ha
      obtain ⟨b, u, rfl, ib, iu, wb, wu⟩ := fn_form ps hw hi
      obtain ⟨g, cap, A0, A1, A2, n0, c0, n1, c1, n2, c2, rfl, hcap, h3⟩ := ht.three
      have HR : Hid (partsR s.data.toList = some (wrTr b, wrTr u)) := Lib.hid (by unfold partsR; rw [hr])
      have hlen := ho.len
      have hln2 := wrTr_part b [.mk [62] [], b, u] (by simp)
      have hln3 := wrTr_part u [.mk [62] [], b, u] (by simp)
      have hl8 := (rdText_ok _ _ hrt).2.2
      have hlw : (wrTr (.mk [] [.mk [62] [], b, u])).length ≤ 8000 := by rw [he]; exact hl8
      have hk : BKeep w (fun q => w.heap.size ≤ q ∧ q < w1.heap.size) g cap w1.heap.size (.mk [62] []) b u A0 A1 A2 n0 c0 n1 c1 n2 c2 (w1.alloc (.cells #[.string ⟨#[]⟩, .slice (some ⟨g, 0, none⟩) 3 cap] 43)) :=
        ⟨Blk.new _ _ _, h3.alloc (fun q hq => hq.2) _, fun q hq => by have := hq.2; simp; omega, hb1.alloc hz1 _, by simp; omega⟩
      have HK := Lib.hid hk
      have C1 : Hid (∀ w', BKeep w (fun q => w.heap.size ≤ q ∧ q < w1.heap.size) g cap w1.heap.size (.mk [62] []) b u A0 A1 A2 n0 c0 n1 c1 n2 c2 w' → Calls Try.prog 50 #[.agg #[.string ⟨b.atom.toArray⟩, .slice A1 n1 c1]] w' fun e w2 => e = .returned (.string ⟨(wrTr b).toArray⟩) ∧ BKeep w (fun q => w.heap.size ≤ q ∧ q < w1.heap.size) g cap w1.heap.size (.mk [62] []) b u A0 A1 A2 n0 c0 n1 c1 n2 c2 w2) :=
        Lib.hid fun w' h => (l1Text_any b _ w' _ h.three.t1 h.all (by omega)).mono fun _ _ ⟨he, hb⟩ => ⟨he, h.more hb⟩
      have C2 : Hid (∀ w', BKeep w (fun q => w.heap.size ≤ q ∧ q < w1.heap.size) g cap w1.heap.size (.mk [62] []) b u A0 A1 A2 n0 c0 n1 c1 n2 c2 w' → Calls Try.prog 50 #[.agg #[.string ⟨u.atom.toArray⟩, .slice A2 n2 c2]] w' fun e w2 => e = .returned (.string ⟨(wrTr u).toArray⟩) ∧ BKeep w (fun q => w.heap.size ≤ q ∧ q < w1.heap.size) g cap w1.heap.size (.mk [62] []) b u A0 A1 A2 n0 c0 n1 c1 n2 c2 w2) :=
        Lib.hid fun w' h => (l1Text_any u _ w' _ h.three.t2 h.all (by omega)).mono fun _ _ ⟨he, hb⟩ => ⟨he, h.more hb⟩
      clear hr hrt hw hi he ho ib iu wb wu ht h3 hlen hln2 hln3 hl8 hlw hk hb1
      go_wp2_with fail
      go_region_held3 (fun w' => w'.cell? ⟨w1.heap.size, 1, none⟩ = some (.slice (some ⟨g, 0, none⟩) 3 cap) ∧ w'.cell? ⟨g, 2, none⟩ = some (.string ⟨b.atom.toArray⟩) ∧ w'.cell? ⟨g, 3, none⟩ = some (.slice A1 n1 c1) ∧ w'.cell? ⟨g, 4, none⟩ = some (.string ⟨u.atom.toArray⟩) ∧ w'.cell? ⟨g, 5, none⟩ = some (.slice A2 n2 c2) ∧ BKeep w (fun q => w.heap.size ≤ q ∧ q < w1.heap.size) g cap w1.heap.size (.mk [62] []) b u A0 A1 A2 n0 c0 n1 c1 n2 c2 w')
        (first | exact HK.out.drew.s | exact BKeep.s (by assumption) | exact (BKeep.drew (by assumption)).s)
        (first
          | (go_at_call 50; (with_reducible refine (C1.out _ ?_).mono ?_); (first | assumption | exact HK.out.drew); rintro e w4 ⟨rfl, hk4⟩)
          | (go_at_call 50; (with_reducible refine (C2.out _ ?_).mono ?_); (first | assumption | exact HK.out.drew); rintro e w5 ⟨rfl, hk5⟩))
      all_goals
        go_wp2
        go_ret3
        refine ⟨?_, ?_⟩
        · unfold tx2S; rw [HR.out]; rfl
        · first | exact hk5.below | exact hk4.below
    · have HR : Hid (partsR s.data.toList = none) := Lib.hid (by
        unfold partsR
        rw [hr]
        cases a with
        | nil => exact absurd rfl ha
        | cons x y => rfl)
      obtain ⟨A, n, c, rfl⟩ := ht.shape
      have hae : (!a.isEmpty) = true := by
        cases h : a with
        | nil => exact absurd h ha
        | cons => rfl
      simp only [Tr.atom]
      clear hr hrt hw hi he ho ht ha
      go_wp2_with fail
      go_ret3
      refine ⟨?_, hb1.alloc hz1 _⟩
      unfold tx2S; rw [HR.out]; rfl
  · have HR : Hid (partsR s.data.toList = none) := Lib.hid (by unfold partsR; rw [hr])
    have hz1 := hb1.size
    clear hr
    go_wp2_with fail
    go_ret3
    refine ⟨?_, hb1.alloc hz1 _⟩
    unfold tx2S; rw [HR.out]; rfl

theorem count_next (L : List (List UInt8)) (k : Nat) (x y : List UInt8) (h : L[k]? = some y) : (L.take (k + 1)).count x = (L.take k).count x + if y = x then 1 else 0 := by
  rw [List.take_add_one, h]
  simp only [Option.toList, List.count_append]
  by_cases e : y = x
  · simp [e]
  · have : (y == x) = false := by simpa using e
    simp [e]

set_option maxRecDepth 100000 in
set_option maxHeartbeats 1000000 in
theorem specBagCount_any (s u : ByteArray) (w : World) (hm : s.size ≤ maxLen) (hm2 : u.size ≤ maxLen) :
    Calls Try.prog 29 #[.string s, .string u] w fun e w' => e = .returned (.int .i64 (cntR s.data.toList u.data.toList)) ∧ Below w.heap.size w w' := by
  go_enter Try.func29, Try.ntmps29
  go_wp2_with fail
  refine (l3Bag_any s _ hm).mono ?_
  rintro e w1 ⟨hb1, ⟨t, v, hr, rfl, ht⟩ | ⟨hr, x1, A1, n1, c1, rfl⟩⟩
  · obtain ⟨hrt, hw, hi, _, he, ho⟩ := rdBg_spec _ _ hr
    have hz1 := hb1.size
    obtain ⟨r, rfl, _, _⟩ := bag_form t hw hi
    have hT := ht.alloc (fun q hq => hq.2) (.cells #[.string ⟨#[]⟩, .slice none 0 0] 43)
    obtain ⟨vp, rfl, hle, hle2, ⟨h0, _⟩ | ⟨_, g, cap, xs, rfl, hcap, hPg, hc, hvs⟩⟩ := ht.form
    · cases h0
    have hl8 := (rdText_ok _ _ hrt).2.2
    obtain ⟨N, hN⟩ : ∃ N, (Tr.mk [109] [] :: r).length = N := ⟨_, rfl⟩
    have HB : Hid (BgIn w1 (fun q => w.heap.size ≤ q ∧ q < w1.heap.size) g N (Tr.mk [109] [] :: r) xs) := Lib.hid ⟨hc, hvs, hN, fun u hu => by have := wrTr_part u _ hu; rw [he] at this; omega⟩
    have HN : Hid (r.length + 1 = N) := Lib.hid hN
    have HG := Lib.hid hPg
    have HL := Lib.hid (show bagL (.mk [] (.mk [109] [] :: r)) = r.map wrTr from rfl)
    rw [hN] at hle2 hcap ⊢
    have HW1 := Lib.hid hb1
    have HV := Lib.hid (specTypeValid_any u · hm2)
    cases hv : (rdTy u.data.toList).isSome with
    | true =>
      have HR : Hid (cntR s.data.toList u.data.toList = (((r.map wrTr).count u.data.toList : Nat) : Int)) := Lib.hid (by unfold cntR; rw [hr]; simp only; rw [if_pos hv, HL.out])
      rw [hv] at HV
      clear hr hrt hw hi he ho ht hT hc hvs hN hPg hl8 hb1 hv
      go_wp2_with fail
      refine (HV.out _).mono ?_
      rintro e w2 ⟨rfl, hb2⟩
      have hz2 := hb2.size
      simp at hz2
      have hblk := (Blk.new w1 43 #[.string ⟨#[]⟩, .slice (some ⟨g, 0, none⟩) N cap]).below hb2 (by simp)
      have hB2 : Below w1.heap.size w1 w2 := ((Below.refl _ _).alloc (Nat.le_refl _) _).trans (hb2.mono (by simp))
      clear hb2
      go_wp2_with fail
      go_loopw [7, 8] (fun nv i wr => ∃ (k m n : Nat), 1 ≤ k ∧ k ≤ N ∧ m < 8000 ∧ n ≤ m ∧ i = .int .i64 (k : Nat) ∧ nv = .int .i64 (n : Nat) ∧ Hid (k = m + 1) ∧ Hid (n = ((r.map wrTr).take m).count u.data.toList) ∧ Below w1.heap.size w1 wr ∧ Blk wr w1.heap.size 43 #[.string ⟨#[]⟩, .slice (some ⟨g, 0, none⟩) N cap]) (fun _ i _ => N - (intOf i).toNat)
      case atStart => exact ⟨1, 0, 0, by omega, by have := HN.out; omega, by omega, by omega, rfl, rfl, Lib.hid rfl, Lib.hid rfl, hB2, hblk⟩
      case round =>
        obtain ⟨k, m, n, hk1, hkN, hm8, hnm, rfl, rfl, HKM, HNN, hbw, hblk⟩ := hrel
        have r1 := hblk.cell 1
        have hlt := hblk.lt
        have hzw := hbw.size
        simp at r1
        by_cases hkl : k < N
        · have hkm := HKM.out
          obtain ⟨t1, ht1⟩ : ∃ t1, r[m]? = some t1 := ⟨r[m]'(by have := HN.out; omega), by simp⟩
          have hp1 : (Tr.mk [109] [] :: r)[k]? = some t1 := by rw [hkm]; simpa using ht1
          have hP1 : ∀ q, (w.heap.size ≤ q ∧ q < w1.heap.size) → q < w1.heap.size := fun q hq => hq.2
          obtain ⟨A, n', c, x1, y1, tr1, hl1⟩ := HB.out.part hP1 HG.out hbw k t1 hp1
          have hgl := hP1 g HG.out
          have HT1 := Lib.hid tr1
          have HCN := Lib.hid (count_next (r.map wrTr) m u.data.toList (wrTr t1) (by rw [List.getElem?_map, ht1]; rfl))
          have hall : Hid (∀ q, (w.heap.size ≤ q ∧ q < w1.heap.size) → q < wr.heap.size) := Lib.hid fun q hq => by have := hq.2; omega
          clear ht1 hp1 tr1 hkm
          go_wp2_with fail
          refine (l1Text_any t1 _ _ _ HT1.out hall.out hl1).mono ?_
          rintro e w4 ⟨rfl, hb4⟩
          have hz4 := hb4.size
          have hB4 := hbw.trans (hb4.mono (by omega))
          have hblk4 := hblk.below hb4 hlt
          clear hb4
          by_cases heq : wrTr t1 = u.data.toList
          · have h1 : (wrTr t1 == u.data.toList) = true := beq_iff_eq.2 heq
            have h2 : (wrTr t1 == u.toList) = true := by rw [Lib.toList_data]; exact h1
            have HEQ := Lib.hid heq
            clear heq
            go_wp2_with fail
            go_roundw
            case rel => exact ⟨k + 1, m + 1, n + 1, by omega, by omega, by have := HKM.out; omega, by omega, by go_num, by go_num, Lib.hid (by have := HKM.out; omega), Lib.hid (by rw [HCN.out, if_pos HEQ.out, ← HNN.out]), hB4, hblk4⟩
            case measure => simp [intOf]; omega
          · have h1 : (wrTr t1 == u.data.toList) = false := beq_eq_false_iff_ne.2 heq
            have h2 : (wrTr t1 == u.toList) = false := by rw [Lib.toList_data]; exact h1
            have HEQ := Lib.hid heq
            clear heq
            go_wp2_with fail
            go_roundw
            case rel => exact ⟨k + 1, m + 1, n, by omega, by omega, by have := HKM.out; omega, by omega, by go_num, rfl, Lib.hid (by have := HKM.out; omega), Lib.hid (by rw [HCN.out, if_neg HEQ.out, ← HNN.out]; rfl), hB4, hblk4⟩
            case measure => simp [intOf]; omega
        · go_wp2_with fail
          go_ret
          refine ⟨ret_int ?_, HW1.out.trans (hbw.mono hz1)⟩
          have h1 : (r.map wrTr).take m = r.map wrTr := List.take_of_length_le (by have := HN.out; have := HKM.out; simp; omega)
          rw [HR.out, HNN.out, h1]
    | false =>
      have HR : Hid (cntR s.data.toList u.data.toList = -1) := Lib.hid (by unfold cntR; rw [hr]; simp only; rw [if_neg (by rw [hv]; simp)])
      rw [hv] at HV
      clear hr hrt hw hi he ho ht hT hc hvs hN hPg hl8 hb1 hv
      go_wp2_with fail
      refine (HV.out _).mono ?_
      rintro e w2 ⟨rfl, hb2⟩
      have HB2 := Lib.hid ((HW1.out.alloc hz1 (.cells #[.string ⟨#[]⟩, .slice (some ⟨g, 0, none⟩) N cap] 43)).trans (hb2.mono (by simp; omega)))
      clear hb2
      go_wp2_with fail
      go_ret
      exact ⟨ret_int (by rw [HR.out]), HB2.out⟩
  · have HR : Hid (cntR s.data.toList u.data.toList = -1) := Lib.hid (by unfold cntR; rw [hr])
    have hz1 := hb1.size
    clear hr
    go_wp2_with fail
    go_ret
    exact ⟨ret_int (by rw [HR.out]), hb1.alloc hz1 _⟩
end Go.Proofs.Ytmkjkoelpngicaa
