/- A number's decimals, as the model writes them; the model's new names. -/
import Derived.Test.YtjcdclnaplojcaaGreatDoorF1
import Derived.Test.YtjcdclnaplojcaaGreatDoorC1
import Derived.Test.YtjcdclnaplojcaaGreatDoorWB
import Derived.Lib.Strings
import Derived.Deep.RegionWith
import Derived.Deep.LoopGhost
namespace Go.Proofs.YtjcdclnaplojcaaGreatDoor
set_option linter.unusedVariables false
open Go.RowKit

theorem run_convert_at (W : World) (g : Nat) (n : Int) (h : W.cell? ⟨g, 0, none⟩ = some (.int .u8 n)) :
    (convert 22 9 (.slice (some ⟨g, 0, none⟩) 1 1)).run Tryz.prog W = .ok (.string ⟨#[UInt8.ofNat n.toNat]⟩) W := by
  rw [run_convert_bytes_string _ _ _ 5 _ _ _ Tryz.underlying22 Tryz.underlying5 Tryz.underlying9]
  rw [run_bytesToString _ _ _ _ [n] (by simp [loadCells, loadCellsFrom, go_sem, h])]
  rfl
theorem ret_str {a b : ByteArray} (h : a = b) : Ending.returned (.string a) = .returned (.string b) := by rw [h]
theorem dec_small (n : Nat) (h : n < 10) : Lib.decDigits n = [UInt8.ofNat (48 + n)] := by rw [Lib.decDigits, dif_pos h]
theorem dec_big (n : Nat) (h : ¬ n < 10) : Lib.decDigits n = Lib.decDigits (n / 10) ++ [UInt8.ofNat (48 + n % 10)] := by rw [Lib.decDigits, dif_neg h]
theorem bytes_snoc (l : List UInt8) (c : UInt8) : (ByteArray.mk l.toArray) ++ (ByteArray.mk #[c]) = ⟨(l ++ [c]).toArray⟩ := by
  apply WideShapes.bytes_inj
  simp [ByteArray.data_append]

theorem l6Dec_small (n : Nat) (hn : n < 10) (w : World) :
    Calls Tryz.prog 62 #[.int .i64 n] w fun e w' => e = .returned (.string ⟨(Lib.decDigits n).toArray⟩) ∧ Below w.heap.size w w' := by
  have hcv := run_convert_at
  have HD := Lib.hid (dec_small n hn)
  go_enter Tryz.func62, Tryz.ntmps62
  go_wp2_with fail
  go_ret
  exact ⟨by rw [HD.out]; rfl, by go_grown⟩
theorem dec_le' (u : Nat) : (Lib.decDigits u).length ≤ u + 1 := by
  induction u using Nat.strongRecOn with
  | _ u ih =>
    by_cases h : u < 10
    · rw [Lib.decDigits, dif_pos h]; simp
    · rw [Lib.decDigits, dif_neg h, List.length_append]
      have := ih (u / 10) (by omega)
      simp
      omega

set_option maxRecDepth 100000 in
theorem l6Dec_any : ∀ (n : Nat), n ≤ 1000000 → ∀ (w : World),
    Calls Tryz.prog 62 #[.int .i64 n] w fun e w' => e = .returned (.string ⟨(Lib.decDigits n).toArray⟩) ∧ Below w.heap.size w w' := by
  intro n
  induction n using Nat.strongRecOn with
  | _ n ih =>
    intro hn w
    by_cases h10 : n < 10
    · exact l6Dec_small n h10 w
    · have hcv := run_convert_at
      have HD := Lib.hid (dec_big n h10)
      have IH : Hid (∀ (m : Int) (W : World), m = (n : Int) / 10 → Calls Tryz.prog 62 #[.int .i64 m] W fun e w' => e = .returned (.string ⟨(Lib.decDigits (n / 10)).toArray⟩) ∧ Below W.heap.size W w') := Lib.hid (by
        rintro m W rfl
        have h := ih (n / 10) (by omega) (by omega) W
        rw [show ((n / 10 : Nat) : Int) = (n : Int) / 10 by omega] at h
        exact h)
      have hdl := dec_le' (n / 10)
      clear ih
      go_enter Tryz.func62, Tryz.ntmps62
      have e0 : IntKind.i64.wrap ((n : Int) / 10) = (n : Int) / 10 := IntWalk.i64_in _ (by omega)
      have e1 : ((n : Int)).tmod 10 = (n : Int) % 10 := Int.tmod_eq_emod_of_nonneg (by omega)
      have e2 : IntKind.i64.wrap (48 + (n : Int) % 10) = 48 + (n : Int) % 10 := IntWalk.i64_in _ (by omega)
      have e3 : IntKind.u8.wrap (48 + (n : Int) % 10) = 48 + (n : Int) % 10 := IntWalk.u8_in _ (by omega)
      go_wp2_with fail
      go_region_with (first
        | (go_at_call 62; (with_reducible refine (IH.out _ _ rfl).mono ?_); rintro e w1 ⟨rfl, hb1⟩; (try have hcell := (hb1.cell (p := ⟨w.heap.size, 0, none⟩) (by simp)).trans (World.cell?_alloc_new _ _ _ _)); have HB1 := Lib.hid hb1; clear hb1))
      all_goals
        go_wp2
        go_ret
        refine ⟨ret_str ((bytes_snoc _ _).trans (by rw [HD.out, UInt8.ofNat_add]; rfl)), ?_⟩
        · first
          | exact ((Below.refl w.heap.size w).drew.trans HB1.out).alloc (show w.heap.size ≤ w1.heap.size from HB1.out.size) _
          | exact ((Below.refl w.heap.size w).alloc (Nat.le_refl _) _).drew.trans (HB1.out.mono (by simp))
/-- The model's namer in block nb. -/
abbrev Nms (w : World) (nb : Nat) (tk : Value) (n : Nat) : Prop := Blk w nb 157 #[tk, .int .i64 n]
theorem z_bytes' (l : List UInt8) : (ByteArray.mk #[122]) ++ (ByteArray.mk l.toArray) = ⟨(122 :: l).toArray⟩ := by
  apply WideShapes.bytes_inj
  simp [ByteArray.data_append]

def FsPost (fr : List (List UInt8)) (n nb : Nat) (tk : Value) (w : World) (e : Ending) (w' : World) : Prop :=
  e = .returned (.string ⟨(zN (fresh fr n)).toArray⟩) ∧ w.grownBy w' (some nb) ∧ Nms w' nb tk (fresh fr n + 1)

set_option maxRecDepth 100000 in
set_option maxHeartbeats 2000000 in
theorem l1Fresh_any (fr : List (List UInt8)) (n nb base : Nat) (tk : Value) (w : World) (hn : Nms w nb tk n) (hf : SRow w base tk fr) (hlen : fr.length ≤ 2000) (hn2 : n ≤ 900000) :
    Calls Tryz.prog 113 #[.pointer (some ⟨nb, 0, none⟩)] w (FsPost fr n nb tk w) := by
  obtain ⟨A, c, rfl⟩ := own_shape hf
  obtain ⟨f1, f2, f3, f4⟩ := fresh_spec fr n
  have HF3 := Lib.hid f3
  have HF4 := Lib.hid f4
  have HN := Lib.hid hn
  have HF := Lib.hid hf
  generalize hm : fresh fr n = M at f1 f2 HF3 HF4
  have HM := Lib.hid hm
  clear hn hf f3 f4 hm
  go_enter Tryz.func113, Tryz.ntmps113
  go_wp2
  go_loopg [] (M - n) (fun q wr => ∃ m, n ≤ m ∧ m + q = M ∧ w.grownBy wr (some nb) ∧ Hid (Nms wr nb (.slice A fr.length c) m))
  case atStart => exact ⟨n, Nat.le_refl _, by omega, grown_refl _ _, HN⟩
  case round =>
    obtain ⟨m, hnm, hmq, hg, HR⟩ := hrel
    have c0 := HR.out.cell 0
    have c1 := HR.out.cell 1
    have cl := HR.out.lt
    simp at c0 c1
    have HG := Lib.hid hg
    have hmM : m ≤ M := by omega
    have hdl := dec_le' m
    have HMQ := Lib.hid hmq
    clear hg hmq
    go_wp2_with fail
    refine (l6Dec_any m (by omega) _).mono ?_
    rintro e w1 ⟨rfl, hb1⟩
    have hn1 := HR.out.below hb1 cl
    have d0 := hn1.cell 0
    have d1 := hn1.cell 1
    have df := hn1.frozen 1
    have dl := hn1.lt
    simp at d0 d1
    have HN1 := Lib.hid hn1
    have HB1 := Lib.hid hb1
    clear hn1 hb1 c0 c1
    go_wp2_with fail
    rw [z_bytes']
    have hs2 : SRow (w1.setCell ⟨nb, 1, none⟩ (.int .i64 ((m : Int) + 1))) base (.slice A fr.length c) fr := by
      have hk1 : SRow w1 base (.slice A fr.length c) fr := HF.out.kept (HG.out.trans (grown_of_below HB1.out (some nb))) (by
        cases h1 : (Value.slice A fr.length c).ownBlock with
        | none => exact .inl rfl
        | some q => exact .inr fun e => row_not HN.out HF.out (by decide) (by rw [h1]; exact e.symm))
      exact ownsRow_far hk1 (fun e => row_not HN1.out hk1 (by decide) e.symm) _
    have hn2' : Nms (w1.setCell ⟨nb, 1, none⟩ (.int .i64 ((m : Int) + 1))) nb (.slice A fr.length c) (m + 1) := by
      have := HN1.out.set_ 1 (.int .i64 ((m : Int) + 1))
      have e : ((m + 1 : Nat) : Int) = (m : Int) + 1 := by omega
      unfold Nms
      rw [e]
      simpa using this
    have hg2 : w.grownBy (w1.setCell ⟨nb, 1, none⟩ (.int .i64 ((m : Int) + 1))) (some nb) := (HG.out.trans (grown_of_below HB1.out (some nb))).trans (grown_set _ _ _ _)
    have HS2 := Lib.hid hs2
    have HN2 := Lib.hid hn2'
    have HG2 := Lib.hid hg2
    clear hs2 hn2' hg2
    refine (l1Has_any fr (122 :: Lib.decDigits m) base _ _ HS2.out (by omega)).mono ?_
    rintro e w2 ⟨rfl, rfl⟩
    by_cases hin : zN m ∈ fr
    · have hd : decide (122 :: Lib.decDigits m ∈ fr) = true := decide_eq_true hin
      have hmM2 : m < M := by
        rcases Nat.lt_or_ge m M with h | h
        · exact h
        · have e : m = M := by omega
          rw [e] at hin
          exact absurd hin HF4.out
      go_wp2
      go_roundg (M - (m + 1))
      case rel => exact ⟨m + 1, by omega, by omega, HG2.out, HN2⟩
      case measure => have := HMQ.out; omega
    · have hd : decide (122 :: Lib.decDigits m ∈ fr) = false := decide_eq_false hin
      have hmM2 : m = M := by
        rcases Nat.lt_or_ge m M with h | h
        · exact absurd (HF3.out m hnm h) hin
        · omega
      have HE := Lib.hid hmM2
      clear hmM2 hin
      go_wp2
      go_ret
      refine ⟨?_, HG2.out, ?_⟩
      · rw [HM.out, ← HE.out]; rfl
      · rw [HM.out, ← HE.out]; exact HN2.out
end Go.Proofs.YtjcdclnaplojcaaGreatDoor
