/- Atoms of bags, tight bags, sums of bags. -/
import Derived.Test.YtmkjkoelpngicaaPH
import Derived.Maps.Ext
namespace Go.Proofs.Ytmkjkoelpngicaa
set_option linter.unusedVariables false
open Go.RowKit Go.Maps

theorem tyN_take (s : ByteArray) (k : Nat) (h : k < s.size) : tyN (s.data.toList.take (k + 1)) = tyN (s.data.toList.take k) + if isAtomB s[k] = true then 1 else 0 := by
  have e : s.data.toList.take (k + 1) = s.data.toList.take k ++ [s[k]] := by
    rw [List.take_succ_eq_append_getElem (by simpa using h)]; rfl
  rw [e, tyN_append]
  simp [tyN, List.countP_cons]
theorem tyN_le (l : List UInt8) : tyN l ≤ l.length := List.countP_le_length

set_option maxRecDepth 100000 in
theorem tyCount_any (s : ByteArray) (w : World) (hs : s.size ≤ 8000) :
    Calls Try.prog 53 #[.string s] w fun e w' => e = .returned (.int .i64 (tyN s.data.toList)) ∧ w = w' := by
  go_enter Try.func53, Try.ntmps53
  go_wp2
  go_loop [3, 7] (fun n i => ∃ k m : Nat, k ≤ s.size ∧ m ≤ k ∧ i = .int .i64 k ∧ n = .int .i64 m ∧ Hid (m = tyN (s.data.toList.take k))) (fun _ i => s.size - (intOf i).toNat)
  case atStart => exact ⟨0, 0, by omega, by omega, rfl, rfl, Lib.hid rfl⟩
  case round =>
    obtain ⟨k, m, hk, hmk, rfl, rfl, HM⟩ := hrel
    by_cases hlt : k < s.size
    · have HT := Lib.hid (tyN_take s k hlt)
      cases hb : isAtomB (s[k]'hlt) with
      | true =>
        have HB := Lib.hid hb
        go_wp2_with (first
          | (go_at_call 76; refine (isAtomByte_any _ _).mono ?_; rintro e w' ⟨rfl, rfl⟩))
        go_round
        case rel => exact ⟨k + 1, m + 1, by omega, by omega, by go_num, by go_num, Lib.hid (by rw [HT.out, HB.out, HM.out]; rfl)⟩
        case measure => simp [intOf]; omega
      | false =>
        have HB := Lib.hid hb
        go_wp2_with (first
          | (go_at_call 76; refine (isAtomByte_any _ _).mono ?_; rintro e w' ⟨rfl, rfl⟩))
        go_round
        case rel => exact ⟨k + 1, m, by omega, by omega, by go_num, rfl, Lib.hid (by rw [HT.out, HB.out, HM.out]; rfl)⟩
        case measure => simp [intOf]; omega
    · go_wp2
      go_ret
      refine ⟨ret_int ?_, rfl⟩
      rw [HM.out, List.take_of_length_le (by simp; omega)]

theorem tight1_any (x : List UInt8) (w : World) :
    Calls Try.prog 57 #[.string ⟨x.toArray⟩] w fun e w' => e = .returned (.bool (tight1 x)) ∧ w = w' := by
  by_cases h1 : x = [110]
  · have hb : (x == [110]) = true := by rw [h1]; rfl
    have H : Hid (tight1 x = true) := Lib.hid (by rw [h1]; rfl)
    clear h1
    go_enter Try.func57, Try.ntmps57
    go_wp2
    go_ret
    exact ⟨ret_bool (by rw [H.out]), rfl⟩
  · have hb : (x == [110]) = false := by simpa using h1
    by_cases h2 : x = [108]
    · have hb2 : (x == [108]) = true := by rw [h2]; rfl
      have H : Hid (tight1 x = true) := Lib.hid (by rw [h2]; rfl)
      clear h1 h2
      go_enter Try.func57, Try.ntmps57
      go_wp2
      go_ret
      exact ⟨ret_bool (by rw [H.out]), rfl⟩
    · have hb2 : (x == [108]) = false := by simpa using h2
      have H : Hid (tight1 x = false) := Lib.hid (by simp [tight1, hb, hb2])
      clear h1 h2
      go_enter Try.func57, Try.ntmps57
      go_wp2
      go_ret
      exact ⟨ret_bool (by rw [H.out]), rfl⟩

theorem invK : ∀ (key : Value) (kl : Lit), keyOf Try.prog 46 key = some kl → ∃ x, key = encStr x := fun key kl hk => by
  obtain ⟨x, hx, _⟩ := Maps.keyOf_str Try.underlying46 hk; exact ⟨x, hx⟩
theorem invV : ∀ (v : Value) (y : DataW Unit × List MemPlace), plainElem Try.prog 3 v = some y → ∃ c, v = Value.int .i64 c := fun v y hv => by
  obtain ⟨c, rfl, _⟩ := plainElem_int_inv Try.underlying3 hv; exact ⟨c, rfl⟩
theorem entry_count {D : DataW Unit} {L : List (List UInt8)} (h : Cnt D L) {x : List UInt8} {c : Int} {yd : DataW Unit} {yp : List MemPlace} (hv : plainElem Try.prog 3 (.int .i64 c) = some (yd, yp)) (hat : ∀ zd, D.atKey (.string x) zd = yd) : x ∈ L ∧ c = (L.count x : Nat) := by
  have h1 := has_true_of_atKey hat
  rw [h.has_] at h1
  obtain ⟨c', e1, e2, _⟩ := plainElem_int_inv Try.underlying3 hv
  injection e1 with _ e1
  subst e1
  injection e2 with e2 _
  have h2 := (h.at_ x).symm.trans (hat _)
  rw [e2] at h2
  injection h2 with h2
  injection h2 with _ h2
  exact ⟨of_decide_eq_true h1, h2.symm⟩

set_option maxRecDepth 100000 in
set_option maxHeartbeats 1000000 in
theorem bagTight_any (b : Nat) (L : List (List UInt8)) (w : World) (h : BagIs w b L) :
    Calls Try.prog 58 #[.map (some b)] w fun e w' => e = .returned (.bool (L.all tight1)) ∧ Below w.heap.size w w' := by
  obtain ⟨D, hown, hc⟩ := h
  have HC := Lib.hid hc
  clear hc
  go_enter Try.func58, Try.ntmps58
  go_wp2_with (first
    | (at_range; refine wpList_range_own _ rfl _ 50 rfl 46 3 lawT Try.underlying50 _ b L.length _ rfl hown ?_; intro w0 hrg0 hg0 hs0)
    | go_in)
  go_frame
  go_loopw [3] (fun _ wr => ∃ (left : Lit → Bool) (cnt : Nat), wr.ranges Try.prog 46 (plainElem Try.prog 3) b w.heap.size L.length D left cnt ∧ (∀ x ∈ L, left (.string x) = false → tight1 x = true) ∧ Below w.heap.size w wr) (fun _ wr => wr.rangeLeft b w.heap.size)
  case atStart =>
    exact ⟨_, _, hrg0, fun x hx h => by rw [HC.out.has_] at h; simp [hx] at h, (Below.refl _ _).grown hg0 (Nat.le_refl _) (fun j hj => by cases hj)⟩
  case round =>
    obtain ⟨left, cnt, hrg, hall, hnx⟩ := hrel
    have HALL := Lib.hid hall
    clear hall
    go_wp2_with (first
      | (at_next; refine wpList_next_ranges _ rfl _ rfl 46 lawT (plainElem Try.prog 3) encStr (Value.int .i64) invK invV b w.heap.size L.length _ _ _ rfl hrg ?_ ?_)
      | go_in)
    · intro hc0 hl0
      go_wp2
      go_ret
      refine ⟨ret_bool ?_, hnx⟩
      rw [eq_comm, List.all_eq_true]
      exact fun x hx => HALL.out x hx (hl0 _)
    · intro x c kl yd yp w2 cnt2 hkey hlk hv hat hrg2 hlt hg2 hs2 hen
      obtain ⟨x', ex, rfl, _⟩ := Maps.keyOf_str Try.underlying46 hkey
      obtain rfl : x = x' := encStr_inj ex
      obtain ⟨hxL, hcx⟩ := entry_count HC.out hv hat
      have HCX := Lib.hid hcx
      clear hs2 hcx
      have hnx2 : Below w.heap.size w w2 := hnx.grown hg2 hnx.size (fun j hj => by cases hj; exact Nat.le_refl _)
      have hsz2 := hg2.size
      cases ht : tight1 x with
      | true =>
        go_wp2_with (first
          | (go_at_call 57; refine (tight1_any _ _).mono ?_; rintro e w' ⟨rfl, rfl⟩))
        go_roundw
        case rel =>
          refine ⟨_, cnt2, hrg2, fun y hy hl => ?_, hnx2⟩
          by_cases e : y = x
          · rw [e]; exact ht
          · refine HALL.out y hy ?_
            have hs : (Lit.string y).sameKey (.string x) = false := sameKey_ne (string_ne e)
            simpa [hs] using hl
        case measure => rw [hrg2.left_eq, hrg.left_eq]; exact hlt
      | false =>
        go_wp2_with (first
          | (go_at_call 57; refine (tight1_any _ _).mono ?_; rintro e w' ⟨rfl, rfl⟩))
        go_ret
        refine ⟨ret_bool ?_, hnx2⟩
        rw [eq_comm, List.all_eq_false]
        exact ⟨x, hxL, by rw [ht]; simp⟩

set_option maxRecDepth 100000 in
set_option maxHeartbeats 1000000 in
theorem bagCount_any (b : Nat) (L : List (List UInt8)) (w : World) (h : BagIs w b L) (hs : ∀ x ∈ L, x.length ≤ 8000) (hL : L.length ≤ 100000000) (hN : bgN L ≤ 1000000000000) :
    Calls Try.prog 60 #[.map (some b)] w fun e w' => e = .returned (.int .i64 (bgN L)) ∧ Below w.heap.size w w' := by
  obtain ⟨D, hown, hc⟩ := h
  have HC := Lib.hid hc
  have HS := Lib.hid hs
  clear hc hs
  obtain ⟨T, hT⟩ : ∃ T, bgN L = T := ⟨_, rfl⟩
  rw [hT] at hN ⊢
  have HT := Lib.hid hT
  clear hT
  go_enter Try.func60, Try.ntmps60
  go_wp2_with (first
    | (at_range; refine wpList_range_own _ rfl _ 50 rfl 46 3 lawT Try.underlying50 _ b L.length _ rfl hown ?_; intro w0 hrg0 hg0 hs0)
    | go_in)
  go_frame
  go_loopw [3] (fun nv wr => ∃ (left : Lit → Bool) (cnt m : Nat), nv = .int .i64 m ∧ m ≤ T ∧ wr.ranges Try.prog 46 (plainElem Try.prog 3) b w.heap.size L.length D left cnt ∧ Hid (m + ((restL left L).map tyN).sum = T) ∧ Below w.heap.size w wr) (fun _ wr => wr.rangeLeft b w.heap.size)
  case atStart =>
    refine ⟨_, _, 1, rfl, by have := HT.out; unfold bgN at this; omega, hrg0, Lib.hid ?_, (Below.refl _ _).grown hg0 (Nat.le_refl _) (fun j hj => by cases hj)⟩
    rw [restL_start HC.out, ← HT.out]
    rfl
  case round =>
    obtain ⟨left, cnt, m, rfl, hmT, hrg, HSUM, hnx⟩ := hrel
    go_wp2_with (first
      | (at_next; refine wpList_next_ranges _ rfl _ rfl 46 lawT (plainElem Try.prog 3) encStr (Value.int .i64) invK invV b w.heap.size L.length _ _ _ rfl hrg ?_ ?_)
      | go_in)
    · intro hc0 hl0
      go_wp2
      go_ret
      refine ⟨ret_int ?_, hnx⟩
      have := HSUM.out
      rw [restL_end left L hl0] at this
      simp at this
      omega
    · intro x c kl yd yp w2 cnt2 hkey hlk hv hat hrg2 hlt hg2 hs2 hen
      obtain ⟨x', ex, rfl, _⟩ := Maps.keyOf_str Try.underlying46 hkey
      obtain rfl : x = x' := encStr_inj ex
      obtain ⟨hxL, hcx⟩ := entry_count HC.out hv hat
      have hxs := HS.out x hxL
      obtain ⟨q, hq⟩ : ∃ q, L.count x = q := ⟨_, rfl⟩
      rw [hq] at hcx
      subst hcx
      have hql : q ≤ 100000000 := by have := List.count_le_length (a := x) (l := L); omega
      have htl := tyN_le x
      obtain ⟨p, hp⟩ : ∃ p, q * tyN x = p := ⟨_, rfl⟩
      have hstep := sum_strike tyN x (restL left L)
      rw [restL_count left L x hlk, hq, hp] at hstep
      have hpT : m + p ≤ T := by have := HSUM.out; omega
      have hmul : IntKind.i64.wrap ((q : Int) * (tyN x : Int)) = (p : Int) := by
        have e : (q : Int) * (tyN x : Int) = ((q * tyN x : Nat) : Int) := by simp
        rw [e, hp]
        exact IntWalk.i64_in _ (by omega)
      have hadd : IntKind.i64.wrap ((m : Int) + (p : Int)) = (m : Int) + (p : Int) := IntWalk.i64_in _ (by omega)
      have HST := Lib.hid hstep
      have CT := Lib.hid (tyCount_any ⟨x.toArray⟩ · (by simp [ByteArray.size]; omega))
      have HQ := Lib.hid hq
      have HPP := Lib.hid hp
      clear hs2 hstep hq hp
      have hnx2 : Below w.heap.size w w2 := hnx.grown hg2 hnx.size (fun j hj => by cases hj; exact Nat.le_refl _)
      go_wp2_with (first
        | (go_at_call 53; refine (CT.out _).mono ?_; rintro e w' ⟨rfl, rfl⟩))
      go_roundw
      case rel =>
        refine ⟨_, cnt2, m + p, by go_num, hpT, hrg2, Lib.hid ?_, hnx2⟩
        rw [restL_step]
        have := HSUM.out
        have := HST.out
        omega
      case measure => rw [hrg2.left_eq, hrg.left_eq]; exact hlt
end Go.Proofs.Ytmkjkoelpngicaa
