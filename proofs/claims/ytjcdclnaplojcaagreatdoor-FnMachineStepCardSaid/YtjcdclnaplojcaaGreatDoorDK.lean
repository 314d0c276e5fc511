/- The reader that draws. -/
import Derived.Test.YtjcdclnaplojcaaGreatDoorS0
import Derived.Deep.RegionHeld3
import Derived.Maps.RangeWalk
namespace Go.Proofs.YtjcdclnaplojcaaGreatDoor
set_option linter.unusedVariables false
open Go.RowKit

/-- Bytes that lie below block r. -/
def CodeIn (w : World) (r : Nat) (b off n : Nat) (A : Option Addr) : Prop :=
  n ≤ 2000 ∧ (0 < n → A = some ⟨b, off, none⟩ ∧ b < r) ∧ ∀ j, j < n → ∃ z : Nat, z ≤ 255 ∧ w.cell? ⟨b, off + j, none⟩ = some (.int .u8 (z : Nat))
/-- The reader: its bytes and its place. -/
def RdAt (w : World) (r b off n c : Nat) (A : Option Addr) (p : Nat) : Prop :=
  Blk w r 88 #[.slice A n c, .int .i64 (p : Nat)] ∧ CodeIn w r b off n A

theorem RdAt.next {w : World} {r b off n c p : Nat} {A : Option Addr} (h : RdAt w r b off n c A p) : RdAt (w.setCell ⟨r, 1, none⟩ (.int .i64 ((p : Int) + 1))) r b off n c A (p + 1) ∧ w.grownBy (w.setCell ⟨r, 1, none⟩ (.int .i64 ((p : Int) + 1))) (some r) := by
  obtain ⟨hb, hn, hA, hcode⟩ := h
  refine ⟨⟨by simpa using hb.set_ 1 (.int .i64 ((p : Int) + 1)), hn, hA, fun j hj => ?_⟩, ⟨rfl, rfl, rfl, by simp, fun k hk hkr => Below.heap_setCell _ _ _ _ (fun e => hkr (by rw [e]))⟩⟩
  obtain ⟨z, hz, hc⟩ := hcode j hj
  have hbr := (hA (by omega)).2
  refine ⟨z, hz, ?_⟩
  rw [World.cell?_of_block (w := w) (Below.heap_setCell _ _ _ _ (by show b ≠ r; omega))]
  exact hc
theorem RdAt.drewN {w : World} {r b off n c p : Nat} {A : Option Addr} (h : RdAt w r b off n c A p) (k : Nat) : RdAt (w.drewN k) r b off n c A p := h

theorem grown_drew {w w' : World} {row : Option Nat} (h : w.grownBy w' row) : w.grownBy w'.drew row := by
  obtain ⟨a, b, c, d, e⟩ := h
  exact ⟨a, b, c, d, e⟩
theorem w64_in (x : Int) (h : -9223372036854775808 ≤ x ∧ x ≤ 9223372036854775807) : wrap64 x = x := by
  unfold wrap64
  omega
theorem xor_i64 (a b : Nat) (ha : a < 9223372036854775808) (hb : b < 9223372036854775808) : bits .xor .i64 (a : Int) (b : Int) = ((a ^^^ b : Nat) : Int) := by
  have hx : a ^^^ b < 2 ^ 63 := Nat.xor_lt_two_pow (by omega) (by omega)
  have h1 : (BitVec.ofInt 64 (a : Int)).toNat = a := by
    rw [BitVec.ofInt_natCast, BitVec.toNat_ofNat]; exact Nat.mod_eq_of_lt (by omega)
  have h2 : (BitVec.ofInt 64 (b : Int)).toNat = b := by
    rw [BitVec.ofInt_natCast, BitVec.toNat_ofNat]; exact Nat.mod_eq_of_lt (by omega)
  show IntKind.i64.wrap ((BitVec.ofInt 64 (a : Int) ^^^ BitVec.ofInt 64 (b : Int)).toNat : Int) = _
  rw [BitVec.toNat_xor, h1, h2]
  exact IntWalk.i64_in _ (by omega)
theorem mix_ok (X m : Nat) (hX : X ≤ 100000000) (hm : 1 ≤ m) (x : Int) (hx : x = (X : Int)) : ∃ z : Nat, z < m ∧ (bits .xor .i64 (wrap64 x) (wrap64 ((wrap64 x).tdiv 64))).tmod (m : Int) = (z : Int) := by
  subst hx
  rw [w64_in _ (by omega), Int.tdiv_eq_ediv_of_nonneg (by omega)]
  have e : ((X : Int) / 64) = ((X / 64 : Nat) : Int) := by simp
  rw [e, w64_in _ (by omega), xor_i64 _ _ (by omega) (by omega)]
  refine ⟨(X ^^^ X / 64) % m, Nat.mod_lt _ (by omega), ?_⟩
  rw [Int.tmod_eq_emod_of_nonneg (by omega)]
  simp

set_option maxRecDepth 100000 in
set_option maxHeartbeats 4000000 in
theorem pick_any (r b off n c p m : Nat) (A : Option Addr) (w : World) (h : RdAt w r b off n c A p) (hm : 1 ≤ m) (hm2 : m ≤ 1000) (hp : p ≤ 1000000) :
    Calls Tryz.prog 43 #[.pointer (some ⟨r, 0, none⟩), .int .i64 (m : Nat)] w fun e w' => ∃ z : Nat, z < m ∧ e = .returned (.int .i64 (z : Nat)) ∧ RdAt w' r b off n c A (p + 1) ∧ w.grownBy w' (some r) := by
  have HN := Lib.hid h.next
  obtain ⟨hb, hn, hA, hcode⟩ := h
  have r0 := hb.cell 0
  have r1 := hb.cell 1
  have f1 := hb.frozen 1
  have hlt := hb.lt
  simp at r0 r1
  have hw1 : IntKind.i64.wrap ((p : Int) + 1) = ((p + 1 : Nat) : Int) := by rw [show ((p : Int) + 1) = ((p + 1 : Nat) : Int) by omega]; exact IntWalk.i64_in _ (by omega)
  have hm0 : decide ((m : Int) < 1) = false := by simp; omega
  by_cases hn0 : n = 0
  · subst hn0
    go_enter Tryz.func43, Tryz.ntmps43
    go_wp2_with fail
    go_ret
    exact ⟨0, by omega, rfl, HN.out⟩
  · have hnb : ((n : Int) == 0) = false := by simp; omega
    have hbr : b ≠ r := by have := (hA (by omega)).2; omega
    obtain ⟨ha, _⟩ := hA (by omega)
    subst ha
    have hm1 : ((m : Int) == 0) = false := by simp; omega
    by_cases hpn : p < n
    · obtain ⟨z, hz, hc⟩ := hcode p hpn
      clear hb hcode hA
      go_enter Tryz.func43, Tryz.ntmps43
      go_wp2_with fail
      go_ret
      exact ⟨z % m, Nat.mod_lt _ (by omega), ret_int (by simp), HN.out⟩
    · obtain ⟨j1, hj1⟩ : ∃ j1, p % n = j1 := ⟨_, rfl⟩
      obtain ⟨j2, hj2⟩ : ∃ j2, (p * 7 + 3) % n = j2 := ⟨_, rfl⟩
      obtain ⟨q3, hq3⟩ : ∃ q3, p / n = q3 := ⟨_, rfl⟩
      have hj1n : j1 < n := by rw [← hj1]; exact Nat.mod_lt _ (by omega)
      have hj2n : j2 < n := by rw [← hj2]; exact Nat.mod_lt _ (by omega)
      have hq3p : q3 ≤ p := by rw [← hq3]; exact Nat.div_le_self _ _
      obtain ⟨z1, hz1, hc1⟩ := hcode j1 hj1n
      obtain ⟨z2, hz2, hc2⟩ := hcode j2 hj2n
      have e1 : (p : Int) % (n : Int) = (j1 : Int) := by rw [← hj1]; simp
      have e2 : ((p : Int) * 7 + 3) % (n : Int) = (j2 : Int) := by rw [← hj2]; simp
      have e3 : (p : Int) / (n : Int) = (q3 : Int) := by rw [← hq3]; simp
      have t1 : (p : Int).tmod (n : Int) = (j1 : Int) := by rw [Int.tmod_eq_emod_of_nonneg (by omega)]; exact e1
      have t2 : ((p : Int) * 7 + 3).tmod (n : Int) = (j2 : Int) := by rw [Int.tmod_eq_emod_of_nonneg (by omega)]; exact e2
      have t3 : (p : Int).tdiv (n : Int) = (q3 : Int) := by rw [Int.tdiv_eq_ediv_of_nonneg (by omega)]; exact e3
      have hw7 : IntKind.i64.wrap ((p : Int) * 7) = (p : Int) * 7 := IntWalk.i64_in _ (by omega)
      have hw8 : IntKind.i64.wrap ((p : Int) * 7 + 3) = (p : Int) * 7 + 3 := IntWalk.i64_in _ (by omega)
      obtain ⟨a1, ha1⟩ : ∃ a1, z1 * 131 = a1 := ⟨_, rfl⟩
      obtain ⟨a2, ha2⟩ : ∃ a2, z2 * 1117 = a2 := ⟨_, rfl⟩
      obtain ⟨a4, ha4⟩ : ∃ a4, p * 29 = a4 := ⟨_, rfl⟩
      obtain ⟨a6, ha6⟩ : ∃ a6, q3 * 53 = a6 := ⟨_, rfl⟩
      obtain ⟨a3, ha3⟩ : ∃ a3, a1 + a2 = a3 := ⟨_, rfl⟩
      obtain ⟨a5, ha5⟩ : ∃ a5, a3 + a4 = a5 := ⟨_, rfl⟩
      obtain ⟨a7, ha7⟩ : ∃ a7, a5 + a6 = a7 := ⟨_, rfl⟩
      have w1 : IntKind.i64.wrap ((z1 : Int) * 131) = (a1 : Int) := by rw [show ((z1 : Int) * 131) = (a1 : Int) by omega]; exact IntWalk.i64_in _ (by omega)
      have w2 : IntKind.i64.wrap ((z2 : Int) * 1117) = (a2 : Int) := by rw [show ((z2 : Int) * 1117) = (a2 : Int) by omega]; exact IntWalk.i64_in _ (by omega)
      have w3 : IntKind.i64.wrap ((a1 : Int) + (a2 : Int)) = (a3 : Int) := by rw [show ((a1 : Int) + (a2 : Int)) = (a3 : Int) by omega]; exact IntWalk.i64_in _ (by omega)
      have w4 : IntKind.i64.wrap ((p : Int) * 29) = (a4 : Int) := by rw [show ((p : Int) * 29) = (a4 : Int) by omega]; exact IntWalk.i64_in _ (by omega)
      have w5 : IntKind.i64.wrap ((a3 : Int) + (a4 : Int)) = (a5 : Int) := by rw [show ((a3 : Int) + (a4 : Int)) = (a5 : Int) by omega]; exact IntWalk.i64_in _ (by omega)
      have w6 : IntKind.i64.wrap ((q3 : Int) * 53) = (a6 : Int) := by rw [show ((q3 : Int) * 53) = (a6 : Int) by omega]; exact IntWalk.i64_in _ (by omega)
      have w7 : IntKind.i64.wrap ((a5 : Int) + (a6 : Int)) = (a7 : Int) := by rw [show ((a5 : Int) + (a6 : Int)) = (a7 : Int) by omega]; exact IntWalk.i64_in _ (by omega)
      have b1 : (0 : Int) ≤ (j1 : Int) := by omega
      have b2 : (j1 : Int) < (n : Int) := by omega
      have b3 : (0 : Int) ≤ (j2 : Int) := by omega
      have b4 : (j2 : Int) < (n : Int) := by omega
      have ha7b : a7 ≤ 100000000 := by omega
      have hin : wrap64 ((z1 : Int) * 131 + (z2 : Int) * 1117 + (a4 : Int)) = (a5 : Int) := by rw [w64_in _ (by omega)]; omega
      obtain ⟨zz, hzz, hze⟩ := mix_ok a7 m ha7b hm (wrap64 ((z1 : Int) * 131 + (z2 : Int) * 1117 + (a4 : Int)) + (q3 : Int) * 53) (by rw [hin]; omega)
      have HZZ := Lib.hid hzz
      have HZE := Lib.hid hze
      clear hzz hze hin
      clear ha1 ha2 ha3 ha4 ha5 ha6 ha7 hj1 hj2 hq3 hb hcode hA
      have hS1 : (w.setCell ⟨r, 1, none⟩ (.int .i64 ((p : Int) + 1))).cell? ⟨r, 0, none⟩ = some (.slice (some ⟨b, off, none⟩) n c) := by simpa using HN.out.1.1.cell 0
      have hS2 : (w.setCell ⟨r, 1, none⟩ (.int .i64 ((p : Int) + 1))).cell? ⟨b, off + j1, none⟩ = some (.int .u8 (z1 : Nat)) := by
        rw [World.cell?_of_block (w := w) (Below.heap_setCell _ _ _ _ (by show b ≠ r; omega))]; exact hc1
      have hS3 : (w.setCell ⟨r, 1, none⟩ (.int .i64 ((p : Int) + 1))).cell? ⟨b, off + j2, none⟩ = some (.int .u8 (z2 : Nat)) := by
        rw [World.cell?_of_block (w := w) (Below.heap_setCell _ _ _ _ (by show b ≠ r; omega))]; exact hc2
      have HS : Hid ((w.setCell ⟨r, 1, none⟩ (.int .i64 ((p : Int) + 1))).drew.cell? ⟨r, 0, none⟩ = some (.slice (some ⟨b, off, none⟩) n c) ∧ (w.setCell ⟨r, 1, none⟩ (.int .i64 ((p : Int) + 1))).drew.cell? ⟨b, off + j1, none⟩ = some (.int .u8 (z1 : Nat)) ∧ (w.setCell ⟨r, 1, none⟩ (.int .i64 ((p : Int) + 1))).drew.cell? ⟨b, off + j2, none⟩ = some (.int .u8 (z2 : Nat))) := Lib.hid ⟨hS1, hS2, hS3⟩
      clear hS1 hS2 hS3 hc1 hc2
      go_enter Tryz.func43, Tryz.ntmps43
      go_wp2_with fail
      go_region_held3 (fun w' => w'.cell? ⟨r, 0, none⟩ = some (.slice (some ⟨b, off, none⟩) n c) ∧ w'.cell? ⟨b, off + j1, none⟩ = some (.int .u8 (z1 : Nat)) ∧ w'.cell? ⟨b, off + j2, none⟩ = some (.int .u8 (z2 : Nat))) (first | exact HS.out) (fail)
      go_wp2_with fail
      go_ret
      exact ⟨zz, HZZ.out, ret_int HZE.out, HN.out.1, grown_drew HN.out.2⟩
end Go.Proofs.YtjcdclnaplojcaaGreatDoor
