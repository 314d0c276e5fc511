/- The reader that draws. The reader that draws: opened, kept, and its pick from a list. Terms that are drawn: of what is drawn the length alone is known. The draws of a kind and a term, that is often a normal one. DrawNormalOf: a kind and a term. A term under a lambda steps as the term does. The law FnWithin, walked: under a lambda a term comes to its normal form in as many steps, and the measure is one more. -/
import Derived.Test.YtbabdjcpmjfeoaaGreatDoorS0
import Derived.Deep.RegionHeld3
import Derived.Maps.RangeWalk
import Derived.Test.YtbabdjcpmjfeoaaGreatDoorF1
import Derived.Test.YtbabdjcpmjfeoaaGreatDoorJ6
import Derived.Test.YtbabdjcpmjfeoaaGreatDoorJ1
import Derived.Test.YtbabdjcpmjfeoaaGreatDoorJ7
import Derived.Test.YtbabdjcpmjfeoaaGreatDoorJ4
namespace Go.Proofs.YtbabdjcpmjfeoaaGreatDoor
set_option linter.unusedVariables false
open Go.RowKit

/-- Bytes that lie below block r. -/
def CodeIn (w : World) (r : Nat) (b off n : Nat) (A : Option Addr) : Prop :=
  n ≤ 2000 ∧ (0 < n → A = some ⟨b, off, none⟩ ∧ b < r) ∧ ∀ j, j < n → ∃ z : Nat, z ≤ 255 ∧ w.cell? ⟨b, off + j, none⟩ = some (.int .u8 (z : Nat))
/-- The reader: its bytes and its place. -/
def RdAt (w : World) (r b off n c : Nat) (A : Option Addr) (p : Nat) : Prop :=
  Blk w r 83 #[.slice A n c, .int .i64 (p : Nat)] ∧ CodeIn w r b off n A

theorem RdAt.next {w : World} {r b off n c p : Nat} {A : Option Addr} (h : RdAt w r b off n c A p) : RdAt (w.setCell ⟨r, 1, none⟩ (.int .i64 ((p : Int) + 1))) r b off n c A (p + 1) ∧ w.grownBy (w.setCell ⟨r, 1, none⟩ (.int .i64 ((p : Int) + 1))) (some r) := by
  obtain ⟨hb, hn, hA, hcode⟩ := h
  refine ⟨⟨by simpa using hb.set_ 1 (.int .i64 ((p : Int) + 1)), hn, hA, fun j hj => ?_⟩, ⟨rfl, rfl, rfl, by simp, fun k hk hkr => Below.heap_setCell _ _ _ _ (fun e => hkr (by rw [e]))⟩⟩
  obtain ⟨z, hz, hc⟩ := hcode j hj
  have hbr := (hA (by omega)).2
  refine ⟨z, hz, ?_⟩
  rw [World.cell?_of_block (w := w) (Below.heap_setCell _ _ _ _ (by show b ≠ r; omega))]
  exact hc
theorem RdAt.drewN {w : World} {r b off n c p : Nat} {A : Option Addr} (h : RdAt w r b off n c A p) (k : Nat) : RdAt (w.drewN k) r b off n c A p := h

theorem grown_drew {w w' : World} {row : Option Nat} (h : w.grownBy w' row) : w.grownBy w'.drew row := by
  obtain ⟨a, b, c, d, e⟩ := h
  exact ⟨a, b, c, d, e⟩
theorem w64_in (x : Int) (h : -9223372036854775808 ≤ x ∧ x ≤ 9223372036854775807) : wrap64 x = x := by
  unfold wrap64
  omega
theorem xor_i64 (a b : Nat) (ha : a < 9223372036854775808) (hb : b < 9223372036854775808) : bits .xor .i64 (a : Int) (b : Int) = ((a ^^^ b : Nat) : Int) := by
  have hx : a ^^^ b < 2 ^ 63 := Nat.xor_lt_two_pow (by omega) (by omega)
  have h1 : (BitVec.ofInt 64 (a : Int)).toNat = a := by
    rw [BitVec.ofInt_natCast, BitVec.toNat_ofNat]; exact Nat.mod_eq_of_lt (by omega)
  have h2 : (BitVec.ofInt 64 (b : Int)).toNat = b := by
    rw [BitVec.ofInt_natCast, BitVec.toNat_ofNat]; exact Nat.mod_eq_of_lt (by omega)
  show IntKind.i64.wrap ((BitVec.ofInt 64 (a : Int) ^^^ BitVec.ofInt 64 (b : Int)).toNat : Int) = _
  rw [BitVec.toNat_xor, h1, h2]
  exact IntWalk.i64_in _ (by omega)
theorem mix_ok (X m : Nat) (hX : X ≤ 100000000) (hm : 1 ≤ m) (x : Int) (hx : x = (X : Int)) : ∃ z : Nat, z < m ∧ (bits .xor .i64 (wrap64 x) (wrap64 ((wrap64 x).tdiv 64))).tmod (m : Int) = (z : Int) := by
  subst hx
  rw [w64_in _ (by omega), Int.tdiv_eq_ediv_of_nonneg (by omega)]
  have e : ((X : Int) / 64) = ((X / 64 : Nat) : Int) := by simp
  rw [e, w64_in _ (by omega), xor_i64 _ _ (by omega) (by omega)]
  refine ⟨(X ^^^ X / 64) % m, Nat.mod_lt _ (by omega), ?_⟩
  rw [Int.tmod_eq_emod_of_nonneg (by omega)]
  simp

set_option maxRecDepth 100000 in
set_option maxHeartbeats 4000000 in
theorem pick_any (r b off n c p m : Nat) (A : Option Addr) (w : World) (h : RdAt w r b off n c A p) (hm : 1 ≤ m) (hm2 : m ≤ 1000) (hp : p ≤ 1000000) :
    Calls Tryz.prog 43 #[.pointer (some ⟨r, 0, none⟩), .int .i64 (m : Nat)] w fun e w' => ∃ z : Nat, z < m ∧ e = .returned (.int .i64 (z : Nat)) ∧ RdAt w' r b off n c A (p + 1) ∧ w.grownBy w' (some r) := by
  have HN := Lib.hid h.next
  obtain ⟨hb, hn, hA, hcode⟩ := h
  have r0 := hb.cell 0
  have r1 := hb.cell 1
  have f1 := hb.frozen 1
  have hlt := hb.lt
  simp at r0 r1
  have hw1 : IntKind.i64.wrap ((p : Int) + 1) = ((p + 1 : Nat) : Int) := by rw [show ((p : Int) + 1) = ((p + 1 : Nat) : Int) by omega]; exact IntWalk.i64_in _ (by omega)
  have hm0 : decide ((m : Int) < 1) = false := by simp; omega
  by_cases hn0 : n = 0
  · subst hn0
    go_enter Tryz.func43, Tryz.ntmps43
    go_wp2_with fail
    go_ret
    exact ⟨0, by omega, rfl, HN.out⟩
  · have hnb : ((n : Int) == 0) = false := by simp; omega
    have hbr : b ≠ r := by have := (hA (by omega)).2; omega
    obtain ⟨ha, _⟩ := hA (by omega)
    subst ha
    have hm1 : ((m : Int) == 0) = false := by simp; omega
    by_cases hpn : p < n
    · obtain ⟨z, hz, hc⟩ := hcode p hpn
      clear hb hcode hA
      go_enter Tryz.func43, Tryz.ntmps43
      go_wp2_with fail
      go_ret
      exact ⟨z % m, Nat.mod_lt _ (by omega), ret_int (by simp), HN.out⟩
    · obtain ⟨j1, hj1⟩ : ∃ j1, p % n = j1 := ⟨_, rfl⟩
      obtain ⟨j2, hj2⟩ : ∃ j2, (p * 7 + 3) % n = j2 := ⟨_, rfl⟩
      obtain ⟨q3, hq3⟩ : ∃ q3, p / n = q3 := ⟨_, rfl⟩
      have hj1n : j1 < n := by rw [← hj1]; exact Nat.mod_lt _ (by omega)
      have hj2n : j2 < n := by rw [← hj2]; exact Nat.mod_lt _ (by omega)
      have hq3p : q3 ≤ p := by rw [← hq3]; exact Nat.div_le_self _ _
      obtain ⟨z1, hz1, hc1⟩ := hcode j1 hj1n
      obtain ⟨z2, hz2, hc2⟩ := hcode j2 hj2n
      have e1 : (p : Int) % (n : Int) = (j1 : Int) := by rw [← hj1]; simp
      have e2 : ((p : Int) * 7 + 3) % (n : Int) = (j2 : Int) := by rw [← hj2]; simp
      have e3 : (p : Int) / (n : Int) = (q3 : Int) := by rw [← hq3]; simp
      have t1 : (p : Int).tmod (n : Int) = (j1 : Int) := by rw [Int.tmod_eq_emod_of_nonneg (by omega)]; exact e1
      have t2 : ((p : Int) * 7 + 3).tmod (n : Int) = (j2 : Int) := by rw [Int.tmod_eq_emod_of_nonneg (by omega)]; exact e2
      have t3 : (p : Int).tdiv (n : Int) = (q3 : Int) := by rw [Int.tdiv_eq_ediv_of_nonneg (by omega)]; exact e3
      have hw7 : IntKind.i64.wrap ((p : Int) * 7) = (p : Int) * 7 := IntWalk.i64_in _ (by omega)
      have hw8 : IntKind.i64.wrap ((p : Int) * 7 + 3) = (p : Int) * 7 + 3 := IntWalk.i64_in _ (by omega)
      obtain ⟨a1, ha1⟩ : ∃ a1, z1 * 131 = a1 := ⟨_, rfl⟩
      obtain ⟨a2, ha2⟩ : ∃ a2, z2 * 1117 = a2 := ⟨_, rfl⟩
      obtain ⟨a4, ha4⟩ : ∃ a4, p * 29 = a4 := ⟨_, rfl⟩
      obtain ⟨a6, ha6⟩ : ∃ a6, q3 * 53 = a6 := ⟨_, rfl⟩
      obtain ⟨a3, ha3⟩ : ∃ a3, a1 + a2 = a3 := ⟨_, rfl⟩
      obtain ⟨a5, ha5⟩ : ∃ a5, a3 + a4 = a5 := ⟨_, rfl⟩
      obtain ⟨a7, ha7⟩ : ∃ a7, a5 + a6 = a7 := ⟨_, rfl⟩
      have w1 : IntKind.i64.wrap ((z1 : Int) * 131) = (a1 : Int) := by rw [show ((z1 : Int) * 131) = (a1 : Int) by omega]; exact IntWalk.i64_in _ (by omega)
      have w2 : IntKind.i64.wrap ((z2 : Int) * 1117) = (a2 : Int) := by rw [show ((z2 : Int) * 1117) = (a2 : Int) by omega]; exact IntWalk.i64_in _ (by omega)
      have w3 : IntKind.i64.wrap ((a1 : Int) + (a2 : Int)) = (a3 : Int) := by rw [show ((a1 : Int) + (a2 : Int)) = (a3 : Int) by omega]; exact IntWalk.i64_in _ (by omega)
      have w4 : IntKind.i64.wrap ((p : Int) * 29) = (a4 : Int) := by rw [show ((p : Int) * 29) = (a4 : Int) by omega]; exact IntWalk.i64_in _ (by omega)
      have w5 : IntKind.i64.wrap ((a3 : Int) + (a4 : Int)) = (a5 : Int) := by rw [show ((a3 : Int) + (a4 : Int)) = (a5 : Int) by omega]; exact IntWalk.i64_in _ (by omega)
      have w6 : IntKind.i64.wrap ((q3 : Int) * 53) = (a6 : Int) := by rw [show ((q3 : Int) * 53) = (a6 : Int) by omega]; exact IntWalk.i64_in _ (by omega)
      have w7 : IntKind.i64.wrap ((a5 : Int) + (a6 : Int)) = (a7 : Int) := by rw [show ((a5 : Int) + (a6 : Int)) = (a7 : Int) by omega]; exact IntWalk.i64_in _ (by omega)
      have b1 : (0 : Int) ≤ (j1 : Int) := by omega
      have b2 : (j1 : Int) < (n : Int) := by omega
      have b3 : (0 : Int) ≤ (j2 : Int) := by omega
      have b4 : (j2 : Int) < (n : Int) := by omega
      have ha7b : a7 ≤ 100000000 := by omega
      have hin : wrap64 ((z1 : Int) * 131 + (z2 : Int) * 1117 + (a4 : Int)) = (a5 : Int) := by rw [w64_in _ (by omega)]; omega
      obtain ⟨zz, hzz, hze⟩ := mix_ok a7 m ha7b hm (wrap64 ((z1 : Int) * 131 + (z2 : Int) * 1117 + (a4 : Int)) + (q3 : Int) * 53) (by rw [hin]; omega)
      have HZZ := Lib.hid hzz
      have HZE := Lib.hid hze
      clear hzz hze hin
      clear ha1 ha2 ha3 ha4 ha5 ha6 ha7 hj1 hj2 hq3 hb hcode hA
      have hS1 : (w.setCell ⟨r, 1, none⟩ (.int .i64 ((p : Int) + 1))).cell? ⟨r, 0, none⟩ = some (.slice (some ⟨b, off, none⟩) n c) := by simpa using HN.out.1.1.cell 0
      have hS2 : (w.setCell ⟨r, 1, none⟩ (.int .i64 ((p : Int) + 1))).cell? ⟨b, off + j1, none⟩ = some (.int .u8 (z1 : Nat)) := by
        rw [World.cell?_of_block (w := w) (Below.heap_setCell _ _ _ _ (by show b ≠ r; omega))]; exact hc1
      have hS3 : (w.setCell ⟨r, 1, none⟩ (.int .i64 ((p : Int) + 1))).cell? ⟨b, off + j2, none⟩ = some (.int .u8 (z2 : Nat)) := by
        rw [World.cell?_of_block (w := w) (Below.heap_setCell _ _ _ _ (by show b ≠ r; omega))]; exact hc2
      have HS : Hid ((w.setCell ⟨r, 1, none⟩ (.int .i64 ((p : Int) + 1))).drew.cell? ⟨r, 0, none⟩ = some (.slice (some ⟨b, off, none⟩) n c) ∧ (w.setCell ⟨r, 1, none⟩ (.int .i64 ((p : Int) + 1))).drew.cell? ⟨b, off + j1, none⟩ = some (.int .u8 (z1 : Nat)) ∧ (w.setCell ⟨r, 1, none⟩ (.int .i64 ((p : Int) + 1))).drew.cell? ⟨b, off + j2, none⟩ = some (.int .u8 (z2 : Nat))) := Lib.hid ⟨hS1, hS2, hS3⟩
      clear hS1 hS2 hS3 hc1 hc2
      go_enter Tryz.func43, Tryz.ntmps43
      go_wp2_with fail
      go_region_held3 (fun w' => w'.cell? ⟨r, 0, none⟩ = some (.slice (some ⟨b, off, none⟩) n c) ∧ w'.cell? ⟨b, off + j1, none⟩ = some (.int .u8 (z1 : Nat)) ∧ w'.cell? ⟨b, off + j2, none⟩ = some (.int .u8 (z2 : Nat))) (first | exact HS.out) (fail)
      go_wp2_with fail
      go_ret
      exact ⟨zz, HZZ.out, ret_int HZE.out, HN.out.1, grown_drew HN.out.2⟩
end Go.Proofs.YtbabdjcpmjfeoaaGreatDoor

namespace Go.Proofs.YtbabdjcpmjfeoaaGreatDoor
set_option linter.unusedVariables false
open Go.RowKit

theorem CodeIn.keep {w w' : World} {r b off n : Nat} {A : Option Addr} (h : CodeIn w r b off n A) (hk : ∀ q, q < r → w'.heap[q]? = w.heap[q]?) : CodeIn w' r b off n A := by
  obtain ⟨h1, h2, h3⟩ := h
  refine ⟨h1, h2, fun j hj => ?_⟩
  obtain ⟨z, hz, hc⟩ := h3 j hj
  exact ⟨z, hz, by rw [World.cell?_of_block (w := w) (hk b (h2 (by omega)).2)]; exact hc⟩
theorem RdAt.lt {w : World} {r b off n c p : Nat} {A : Option Addr} (h : RdAt w r b off n c A p) : r < w.heap.size := h.1.lt
theorem RdAt.below {w w' : World} {r b off n c p : Nat} {A : Option Addr} (h : RdAt w r b off n c A p) (hb : Below w.heap.size w w') : RdAt w' r b off n c A p :=
  ⟨h.1.below hb h.lt, h.2.keep fun q hq => hb.block q (by have := h.lt; omega)⟩
theorem RdAt.grown {w w' : World} {r b off n c p : Nat} {A : Option Addr} {row : Option Nat} (h : RdAt w r b off n c A p) (hg : w.grownBy w' row) (hr : ∀ k, row = some k → r < k) : RdAt w' r b off n c A p :=
  ⟨h.1.grown hg (fun e => by have := hr r e.symm; omega), h.2.keep fun q hq => by
    obtain ⟨_, _, _, _, hk⟩ := hg
    exact hk q (by have := h.lt; omega) (fun e => by have := hr q e.symm; omega)⟩
theorem RdAt.alloc {w : World} {r b off n c p : Nat} {A : Option Addr} (h : RdAt w r b off n c A p) (o : Obj) : RdAt (w.alloc o) r b off n c A p :=
  h.below ((Below.refl _ _).alloc (Nat.le_refl _) _)
theorem gr_below {w w' w2 : World} {r : Nat} (h : w.grownBy w' (some r)) (hb : Below w'.heap.size w' w2) : w.grownBy w2 (some r) := by
  obtain ⟨a, b, c, d, e⟩ := h
  have := hb.size
  exact ⟨hb.os.trans a, hb.tape.trans b, hb.output.trans c, by omega, fun k hk hr => (hb.block k (by omega)).trans (e k hk hr)⟩
/-- What the reader leaves: its own block alone is changed. -/
theorem gr_new {w w' : World} {r : Nat} (h : w.grownBy w' (some r)) (o : Obj) : w.grownBy (w'.alloc o) (some r) := gr_below h ((Below.refl _ _).alloc (Nat.le_refl _) o)
theorem gr_row {w w' w2 : World} {r : Nat} {row : Option Nat} (h : w.grownBy w' (some r)) (hg : w'.grownBy w2 row) (hr : ∀ k, row = some k → w.heap.size ≤ k) : w.grownBy w2 (some r) := by
  obtain ⟨a, b, c, d, e⟩ := h
  obtain ⟨a', b', c', d', e'⟩ := hg
  exact ⟨a'.trans a, b'.trans b, c'.trans c, by omega, fun k hk hkr => (e' k (by omega) (fun e => by have := hr k e.symm; omega)).trans (e k hk hkr)⟩
theorem gr_trans {w w' w2 : World} {r : Nat} (h : w.grownBy w' (some r)) (hg : w'.grownBy w2 (some r)) : w.grownBy w2 (some r) := by
  obtain ⟨a, b, c, d, e⟩ := h
  obtain ⟨a', b', c', d', e'⟩ := hg
  exact ⟨a'.trans a, b'.trans b, c'.trans c, by omega, fun k hk hkr => (e' k (by omega) hkr).trans (e k hk hkr)⟩
theorem SRow.over {w w' : World} {B r : Nat} {v : Value} {l : List (List UInt8)} (h : SRow w B v l) (hg : w.grownBy w' (some r)) (hr : r < B) : SRow w' B v l :=
  h.kept hg (by
    cases e : v.ownBlock with
    | none => exact .inl rfl
    | some k => exact .inr (by have := (h.lt k e).1; intro e2; injection e2 with e2; omega))

set_option maxRecDepth 100000 in
theorem of_any (l : List (List UInt8)) (v : Value) (B r b off n c p : Nat) (A : Option Addr) (w : World) (h : RdAt w r b off n c A p) (hv : SRow w B v l) (hB : r < B) (hl : 1 ≤ l.length) (hl2 : l.length ≤ 1000) (hp : p ≤ 1000000) :
    Calls Tryz.prog 44 #[.pointer (some ⟨r, 0, none⟩), v] w fun e w' => ∃ x, x ∈ l ∧ e = .returned (.string ⟨x.toArray⟩) ∧ RdAt w' r b off n c A (p + 1) ∧ w.grownBy w' (some r) := by
  obtain ⟨A1, c1, rfl⟩ := own_shape hv
  have HV := Lib.hid hv
  have HP := Lib.hid (pick_any r b off n c p l.length A w h hl hl2 hp)
  clear h hv
  go_enter Tryz.func44, Tryz.ntmps44
  go_wp2_with fail
  refine HP.out.mono ?_
  rintro e w1 ⟨z, hz, rfl, hr1, hg1⟩
  have HV1 := Lib.hid (HV.out.over hg1 hB)
  obtain ⟨g, rfl, _, _, _, hcell⟩ := HV1.out.cell hz
  have HR1 := Lib.hid hr1
  have HG1 := Lib.hid hg1
  have hz1 : (0 : Int) ≤ (z : Int) := by omega
  have hz2 : (z : Int) < (l.length : Int) := by omega
  obtain ⟨x, hx⟩ : ∃ x, l[z] = x := ⟨_, rfl⟩
  have HX := Lib.hid (show x ∈ l by rw [← hx]; exact List.getElem_mem _)
  rw [hx] at hcell
  clear hr1 hg1 hx
  go_wp2_with fail
  go_ret
  exact ⟨x, HX.out, rfl, HR1.out, HG1.out⟩

/-- A code that came in. -/
def CodeAt (w : World) (b off n : Nat) (A : Option Addr) : Prop :=
  (0 < n → A = some ⟨b, off, none⟩ ∧ b < w.heap.size) ∧ ∀ j, j < n → ∃ z : Nat, z ≤ 255 ∧ w.cell? ⟨b, off + j, none⟩ = some (.int .u8 (z : Nat))
theorem CodeAt.reader {w : World} {b off n m c : Nat} {A : Option Addr} (h : CodeAt w b off n A) (hm : m ≤ n) (hm2 : m ≤ 2000) :
    RdAt (w.alloc (.cells #[.slice A m c, .int .i64 0] 83)) w.heap.size b off m c A 0 := by
  refine ⟨Blk.new _ _ _, (show CodeIn w w.heap.size b off m A from ⟨hm2, fun h0 => h.1 (by omega), fun j hj => h.2 j (by omega)⟩).keep fun q hq => ?_⟩
  exact ((Below.refl _ w).alloc (Nat.le_refl _) _).block q hq

set_option maxRecDepth 100000 in
theorem l6Open_any (b off n c : Nat) (A : Option Addr) (w : World) (h : CodeAt w b off n A) (hn : n ≤ 1048576) (hc : n ≤ c) (hc2 : c ≤ maxLen) :
    Calls Tryz.prog 22 #[.slice A n c] w fun e w' => ∃ m c', e = .returned (.pointer (some ⟨w.heap.size, 0, none⟩)) ∧ RdAt w' w.heap.size b off m c' A 0 ∧ Below w.heap.size w w' := by
  unfold maxLen at hc2
  by_cases hn2 : n ≤ 2000
  · have HRD := Lib.hid (h.reader (c := c) (Nat.le_refl _) hn2)
    clear h
    go_enter Tryz.func22, Tryz.ntmps22
    go_wp2_with fail
    go_ret
    exact ⟨n, c, rfl, HRD.out, (Below.refl _ _).alloc (Nat.le_refl _) _⟩
  · have HRD := Lib.hid (h.reader (m := 2000) (c := c) (by omega) (Nat.le_refl _))
    obtain ⟨ha, _⟩ := h.1 (by omega)
    subst ha
    clear h
    go_enter Tryz.func22, Tryz.ntmps22
    go_wp2_with fail
    go_ret
    exact ⟨2000, c, rfl, HRD.out, (Below.refl _ _).alloc (Nat.le_refl _) _⟩

end Go.Proofs.YtbabdjcpmjfeoaaGreatDoor

namespace Go.Proofs.YtbabdjcpmjfeoaaGreatDoor
set_option linter.unusedVariables false
open Go.RowKit

theorem gq_refl (w : World) (r : Nat) : w.grownBy w (some r) := ⟨rfl, rfl, rfl, Nat.le_refl _, fun _ _ _ => rfl⟩
/-- What a drawing function answers: a text of at most m bytes, after at most k picks. -/
def DqPost (m k r b off n c p : Nat) (A : Option Addr) (w : World) (e : Ending) (w' : World) : Prop :=
  ∃ (x : List UInt8) (p' : Nat), e = .returned (.string ⟨x.toArray⟩) ∧ x.length ≤ m ∧ p ≤ p' ∧ p' ≤ p + k ∧ RdAt w' r b off n c A p' ∧ w.grownBy w' (some r)
/-- The texts of a list are short. -/
def Brief (m : Nat) (L : List (List UInt8)) : Prop := ∀ x ∈ L, x.length ≤ m
theorem Brief.snoc {m : Nat} {L : List (List UInt8)} {x : List UInt8} (h : Brief m L) (hx : x.length ≤ m) : Brief m (L ++ [x]) := fun y hy => by
  rcases List.mem_append.1 hy with h1 | h1
  · exact h y h1
  · rw [List.mem_singleton.1 h1]; exact hx
/-- A list of texts, newly made, is drawn from. -/
theorem of_new (L : List (List UInt8)) (m r b off n c p : Nat) (A : Option Addr) (w : World) (h : RdAt w r b off n c A p) (hl : 1 ≤ L.length) (hl2 : L.length ≤ 1000) (hp : p ≤ 1000000) (hs : Brief m L) (o : Obj) (ho : o = .cells (L.map strV).toArray 9) :
    Calls Tryz.prog 44 #[.pointer (some ⟨r, 0, none⟩), .slice (some ⟨w.heap.size, 0, none⟩) L.length L.length] (w.alloc o) (DqPost m 1 r b off n c p A w) := by
  subst ho
  refine (of_any L _ w.heap.size r b off n c p A _ (h.alloc _) ⟨by simp, .inr ⟨w.heap.size, L.length, _, rfl, Nat.le_refl _, heap_alloc_new w _, Nat.le_refl _, by unfold maxLen; omega, by simp, List.take_of_length_le (by simp)⟩⟩ h.lt hl hl2 hp).mono ?_
  rintro e w1 ⟨x, hx, rfl, hr1, hg1⟩
  exact ⟨x, p + 1, rfl, hs x hx, by omega, by omega, hr1, gr_trans (gr_new (gq_refl w r) _) hg1⟩

set_option maxRecDepth 100000 in
theorem l91Name_any (r b off n c p : Nat) (A : Option Addr) (w : World) (h : RdAt w r b off n c A p) (hp : p ≤ 1000000) :
    Calls Tryz.prog 89 #[.pointer (some ⟨r, 0, none⟩)] w (DqPost 2 1 r b off n c p A w) := by
  have HO := Lib.hid (of_new [[120], [121], [102], [122, 48], [122, 49], [98, 50]] 2 r b off n c p A w h (by decide) (by decide) hp (by unfold Brief; decide) _ rfl)
  clear h
  go_enter Tryz.func89, Tryz.ntmps89
  go_wp2_with fail
  refine HO.out.mono ?_
  rintro e w1 ⟨x, p', rfl, hx, h1, h2, hr1, hg1⟩
  have H := Lib.hid (And.intro hr1 hg1)
  clear hr1 hg1
  go_wp2_with fail
  go_ret
  exact ⟨x, p', rfl, hx, h1, h2, H.out⟩

set_option maxRecDepth 100000 in
set_option maxHeartbeats 2000000 in
theorem l91Known_any (r b off n c p : Nat) (A : Option Addr) (w : World) (h : RdAt w r b off n c A p) (hp : p ≤ 1000000) :
    Calls Tryz.prog 66 #[.pointer (some ⟨r, 0, none⟩)] w (DqPost 200 1 r b off n c p A w) := by
  have HO := Lib.hid (of_new [[40, 97, 112, 112, 32, 40, 108, 97, 109, 32, 120, 32, 40, 97, 112, 112, 32, 120, 32, 120, 41, 41, 32, 40, 108, 97, 109, 32, 121, 32, 121, 41, 41], [40, 97, 112, 112, 32, 40, 108, 97, 109, 32, 120, 32, 40, 97, 112, 112, 32, 120, 32, 120, 41, 41, 32, 40, 108, 97, 109, 32, 120, 32, 40, 97, 112, 112, 32, 120, 32, 120, 41, 41, 41], [40, 97, 112, 112, 32, 40, 97, 112, 112, 32, 40, 108, 97, 109, 32, 102, 32, 40, 108, 97, 109, 32, 120, 32, 40, 97, 112, 112, 32, 102, 32, 40, 97, 112, 112, 32, 102, 32, 120, 41, 41, 41, 41, 32, 40, 108, 97, 109, 32, 102, 32, 40, 108, 97, 109, 32, 120, 32, 40, 97, 112, 112, 32, 102, 32, 40, 97, 112, 112, 32, 102, 32, 120, 41, 41, 41, 41, 41, 32, 121, 41], [40, 97, 112, 112, 32, 40, 97, 112, 112, 32, 40, 108, 97, 109, 32, 120, 32, 40, 108, 97, 109, 32, 121, 32, 120, 41, 41, 32, 122, 48, 41, 32, 40, 97, 112, 112, 32, 40, 108, 97, 109, 32, 120, 32, 40, 97, 112, 112, 32, 120, 32, 120, 41, 41, 32, 40, 108, 97, 109, 32, 120, 32, 40, 97, 112, 112, 32, 120, 32, 120, 41, 41, 41, 41], [40, 108, 97, 109, 32, 120, 32, 40, 97, 112, 112, 32, 40, 108, 97, 109, 32, 121, 32, 40, 97, 112, 112, 32, 121, 32, 121, 41, 41, 32, 120, 41, 41], [40, 97, 112, 112, 32, 40, 108, 97, 109, 32, 102, 32, 40, 108, 97, 109, 32, 120, 32, 40, 97, 112, 112, 32, 102, 32, 40, 97, 112, 112, 32, 102, 32, 120, 41, 41, 41, 41, 32, 40, 108, 97, 109, 32, 121, 32, 40, 108, 97, 109, 32, 120, 32, 121, 41, 41, 41], [40, 108, 97, 109, 32, 120, 32, 40, 97, 112, 112, 32, 120, 32, 40, 97, 112, 112, 32, 40, 108, 97, 109, 32, 121, 32, 121, 41, 32, 120, 41, 41, 41], [40, 97, 112, 112, 32, 120, 32, 40, 97, 112, 112, 32, 40, 108, 97, 109, 32, 121, 32, 121, 41, 32, 40, 108, 97, 109, 32, 102, 32, 102, 41, 41, 41], [40, 108, 97, 109, 32, 102, 32, 40, 108, 97, 109, 32, 120, 32, 40, 97, 112, 112, 32, 102, 32, 40, 97, 112, 112, 32, 102, 32, 120, 41, 41, 41, 41], [40, 97, 112, 112, 32, 40, 108, 97, 109, 32, 120, 32, 40, 97, 112, 112, 32, 40, 97, 112, 112, 32, 120, 32, 121, 41, 32, 120, 41, 41, 32, 40, 108, 97, 109, 32, 122, 48, 32, 122, 48, 41, 41], [40, 97, 112, 112, 32, 40, 97, 112, 112, 32, 40, 108, 97, 109, 32, 102, 32, 40, 108, 97, 109, 32, 120, 32, 40, 97, 112, 112, 32, 102, 32, 40, 97, 112, 112, 32, 102, 32, 120, 41, 41, 41, 41, 32, 40, 108, 97, 109, 32, 120, 32, 40, 97, 112, 112, 32, 120, 32, 120, 41, 41, 41, 32, 40, 108, 97, 109, 32, 102, 32, 102, 41, 41]] 200 r b off n c p A w h (by decide) (by decide) hp (by unfold Brief; decide) _ rfl)
  clear h
  go_enter Tryz.func66, Tryz.ntmps66
  go_wp2_with fail
  refine HO.out.mono ?_
  rintro e w1 ⟨x, p', rfl, hx, h1, h2, hr1, hg1⟩
  have H := Lib.hid (And.intro hr1 hg1)
  clear hr1 hg1
  go_wp2_with fail
  go_ret
  exact ⟨x, p', rfl, hx, h1, h2, H.out⟩
/-- A lambda's, an application's, a redex's text. -/
def lamQ (x t : List UInt8) : List UInt8 := [40, 108, 97, 109, 32] ++ (x ++ ([32] ++ (t ++ [41])))
def appQ (s t : List UInt8) : List UInt8 := [40, 97, 112, 112, 32] ++ (s ++ ([32] ++ (t ++ [41])))
theorem lam_ba (x t : List UInt8) : ((((⟨#[40, 108, 97, 109, 32]⟩ : ByteArray) ++ ⟨x.toArray⟩) ++ ⟨#[32]⟩) ++ ⟨t.toArray⟩) ++ ⟨#[41]⟩ = ⟨(lamQ x t).toArray⟩ := by
  apply WideShapes.bytes_inj
  simp [lamQ, ByteArray.data_append]
theorem app_ba (s t : List UInt8) : ((((⟨#[40, 97, 112, 112, 32]⟩ : ByteArray) ++ ⟨s.toArray⟩) ++ ⟨#[32]⟩) ++ ⟨t.toArray⟩) ++ ⟨#[41]⟩ = ⟨(appQ s t).toArray⟩ := by
  apply WideShapes.bytes_inj
  simp [appQ, ByteArray.data_append]
theorem red_ba (x t u : List UInt8) : ((((((⟨#[40, 97, 112, 112, 32, 40, 108, 97, 109, 32]⟩ : ByteArray) ++ ⟨x.toArray⟩) ++ ⟨#[32]⟩) ++ ⟨t.toArray⟩) ++ ⟨#[41, 32]⟩) ++ ⟨u.toArray⟩) ++ ⟨#[41]⟩ = ⟨(appQ (lamQ x t) u).toArray⟩ := by
  apply WideShapes.bytes_inj
  simp [appQ, lamQ, ByteArray.data_append]
theorem lamQ_len (x t : List UInt8) : (lamQ x t).length = x.length + t.length + 7 := by simp [lamQ]; omega
theorem appQ_len (x t : List UInt8) : (appQ x t).length = x.length + t.length + 7 := by simp [appQ]; omega
def lenQ : Nat → Nat
  | 0 => 2
  | d + 1 => 2 * lenQ d + 20
def pkQ : Nat → Nat
  | 0 => 3
  | d + 1 => 2 * pkQ d + 3

set_option maxRecDepth 100000 in
set_option maxHeartbeats 4000000 in
theorem l91Term_zero (r b off n c p B g cc : Nat) (A : Option Addr) (L : List (List UInt8)) (w : World) (h : RdAt w r b off n c A p) (hl : SRow w B (.slice (some ⟨g, 0, none⟩) L.length cc) L) (hB : r < B) (hsh : Brief 2 L) (hL : L.length ≤ 100) (hp : p + 200 ≤ 1000000) :
    Calls Tryz.prog 67 #[.pointer (some ⟨r, 0, none⟩), .slice (some ⟨g, 0, none⟩) L.length cc, .int .i64 0] w (DqPost 2 3 r b off n c p A w) := by
  have HL := Lib.hid hl
  have HSH := Lib.hid hsh
  have HR := Lib.hid h
  clear h hl hsh
  by_cases hL0 : 0 < L.length
  · have HQ := Lib.hid (pick_any r b off n c p 5 A _ HR.out (by decide) (by decide) (by omega))
    go_enter Tryz.func67, Tryz.ntmps67
    go_wp2_with fail
    refine HQ.out.mono ?_
    rintro e wq ⟨zq, hzq, rfl, hrq, hgq⟩
    have hsq := hgq.size
    have HRQ := Lib.hid hrq
    have HGQ := Lib.hid (gr_trans (gq_refl w r) hgq)
    have HLQ := Lib.hid (HL.out.over HGQ.out hB)
    clear hrq hgq
    by_cases hzq0 : 0 < zq
    · have HS := Lib.hid (pick_any r b off n c _ L.length A _ HRQ.out (by omega) (by omega) (by omega))
      go_wp2_with fail
      refine HS.out.mono ?_
      rintro e ws ⟨zs, hzs, rfl, hrs, hgs⟩
      have HRS := Lib.hid hrs
      have HGS := Lib.hid (gr_trans HGQ.out hgs)
      obtain ⟨g1, hg1, _, _, _, hcell⟩ := (HL.out.over HGS.out hB).cell hzs
      simp only [Option.some.injEq, Addr.mk.injEq, and_true] at hg1
      obtain ⟨x, hx⟩ : ∃ x, L[zs] = x := ⟨_, rfl⟩
      have hxl : x.length ≤ 2 := HSH.out x (by rw [← hx]; exact List.getElem_mem _)
      rw [hx] at hcell
      have hz1 : (0 : Int) ≤ (zs : Int) := by omega
      have hz2 : (zs : Int) < (L.length : Int) := by omega
      clear hrs hgs hx
      subst hg1
      go_wp2_with fail
      go_ret
      exact ⟨x, _, rfl, by omega, by omega, by omega, HRS.out, HGS.out⟩
    · obtain rfl : zq = 0 := by omega
      have HNa := Lib.hid (l91Name_any r b off n c _ A _ HRQ.out (by omega))
      go_wp2_with fail
      refine HNa.out.mono ?_
      rintro e wna ⟨xa, pna, rfl, hxla, hpaa, hpba, hrna, hgna⟩
      have hsna := hgna.size
      have HRNa := Lib.hid hrna
      have HGNa := Lib.hid (gr_trans HGQ.out hgna)
      have hxsa : (⟨xa.toArray⟩ : ByteArray).size ≤ 1000 := by simp [ByteArray.size]; omega
      clear hrna hgna
      go_wp2_with fail
      go_ret
      exact ⟨xa, pna, rfl, by omega, by omega, by omega, HRNa.out, HGNa.out⟩
  · have HNa := Lib.hid (l91Name_any r b off n c p A _ HR.out (by omega))
    go_enter Tryz.func67, Tryz.ntmps67
    go_wp2_with fail
    refine HNa.out.mono ?_
    rintro e wna ⟨xa, pna, rfl, hxla, hpaa, hpba, hrna, hgna⟩
    have hsna := hgna.size
    have HRNa := Lib.hid hrna
    have HGNa := Lib.hid (gr_trans (gq_refl w r) hgna)
    have hxsa : (⟨xa.toArray⟩ : ByteArray).size ≤ 1000 := by simp [ByteArray.size]; omega
    clear hrna hgna
    go_wp2_with fail
    go_ret
    exact ⟨xa, pna, rfl, by omega, by omega, by omega, HRNa.out, HGNa.out⟩

set_option maxRecDepth 100000 in
set_option maxHeartbeats 8000000 in
theorem l91Term_succ (d D r b off n c p B g cc : Nat) (A : Option Addr) (L : List (List UInt8)) (w : World) (hD : D = d + 1) (hDs : D ≤ 50) (hm : lenQ d ≤ 400) (hk : pkQ d ≤ 100)
    (ih : ∀ p w B g cc L, RdAt w r b off n c A p → SRow w B (.slice (some ⟨g, 0, none⟩) L.length cc) L → r < B → Brief 2 L → L.length + d ≤ 100 → p + 200 * (d + 1) ≤ 1000000 → Calls Tryz.prog 67 #[.pointer (some ⟨r, 0, none⟩), .slice (some ⟨g, 0, none⟩) L.length cc, .int .i64 (d : Nat)] w (DqPost (lenQ d) (pkQ d) r b off n c p A w))
    (h : RdAt w r b off n c A p) (hl : SRow w B (.slice (some ⟨g, 0, none⟩) L.length cc) L) (hB : r < B) (hsh : Brief 2 L) (hL : L.length + D ≤ 100) (hp : p + 200 * (D + 1) ≤ 1000000) :
    Calls Tryz.prog 67 #[.pointer (some ⟨r, 0, none⟩), .slice (some ⟨g, 0, none⟩) L.length cc, .int .i64 (D : Nat)] w (DqPost (lenQ D) (pkQ D) r b off n c p A w) := by
  have hD0 : ¬ D = 0 := by omega
  have hD1 : IntKind.i64.wrap ((D : Int) - 1) = (d : Int) := by rw [show ((D : Int) - 1) = (d : Int) by omega]; exact IntWalk.i64_in _ (by omega)
  obtain ⟨M, hM⟩ : ∃ M, lenQ d = M := ⟨_, rfl⟩
  obtain ⟨K, hK⟩ : ∃ K, pkQ d = K := ⟨_, rfl⟩
  rw [show lenQ D = 2 * M + 20 by rw [hD, ← hM]; rfl, show pkQ D = 2 * K + 3 by rw [hD, ← hK]; rfl]
  rw [hM] at hm
  rw [hK] at hk
  rw [hM, hK] at ih
  have IH := Lib.hid ih
  have HP := Lib.hid (pick_any r b off n c p 6 A w h (by decide) (by decide) (by omega))
  have HL := Lib.hid hl
  have HSH := Lib.hid hsh
  have hp2 : p + 200 * (d + 2) ≤ 1000000 := by omega
  have hL2 : L.length + d + 1 ≤ 100 := by omega
  have hD2 : ¬ (D : Int) ≤ 0 := by omega
  clear h hl hsh ih hM hK hD hp hL
  go_enter Tryz.func67, Tryz.ntmps67
  go_wp2_with fail
  refine HP.out.mono ?_
  rintro e w1 ⟨z, hz, rfl, hr1, hg1⟩
  have hs1 := hg1.size
  have HR1 := Lib.hid hr1
  have HG1 := Lib.hid hg1
  clear hr1 hg1
  by_cases hz0 : z = 0
  · subst hz0
    by_cases hL0 : 0 < L.length
    · have HQ := Lib.hid (pick_any r b off n c (p + 1) 5 A _ HR1.out (by decide) (by decide) (by omega))
      go_wp2_with fail
      refine HQ.out.mono ?_
      rintro e wq ⟨zq, hzq, rfl, hrq, hgq⟩
      have hsq := hgq.size
      have HRQ := Lib.hid hrq
      have HGQ := Lib.hid (gr_trans HG1.out hgq)
      have HLQ := Lib.hid (HL.out.over HGQ.out hB)
      clear hrq hgq
      by_cases hzq0 : 0 < zq
      · have HS := Lib.hid (pick_any r b off n c _ L.length A _ HRQ.out (by omega) (by omega) (by omega))
        go_wp2_with fail
        refine HS.out.mono ?_
        rintro e ws ⟨zs, hzs, rfl, hrs, hgs⟩
        have HRS := Lib.hid hrs
        have HGS := Lib.hid (gr_trans HGQ.out hgs)
        obtain ⟨g1, hg1, _, _, _, hcell⟩ := (HL.out.over HGS.out hB).cell hzs
        simp only [Option.some.injEq, Addr.mk.injEq, and_true] at hg1
        obtain ⟨x, hx⟩ : ∃ x, L[zs] = x := ⟨_, rfl⟩
        have hxl : x.length ≤ 2 := HSH.out x (by rw [← hx]; exact List.getElem_mem _)
        rw [hx] at hcell
        have hz1 : (0 : Int) ≤ (zs : Int) := by omega
        have hz2 : (zs : Int) < (L.length : Int) := by omega
        clear hrs hgs hx
        subst hg1
        go_wp2_with fail
        go_ret
        exact ⟨x, _, rfl, by omega, by omega, by omega, HRS.out, HGS.out⟩
      · obtain rfl : zq = 0 := by omega
        have HNa := Lib.hid (l91Name_any r b off n c _ A _ HRQ.out (by omega))
        go_wp2_with fail
        refine HNa.out.mono ?_
        rintro e wna ⟨xa, pna, rfl, hxla, hpaa, hpba, hrna, hgna⟩
        have hsna := hgna.size
        have HRNa := Lib.hid hrna
        have HGNa := Lib.hid (gr_trans HGQ.out hgna)
        have hxsa : (⟨xa.toArray⟩ : ByteArray).size ≤ 1000 := by simp [ByteArray.size]; omega
        clear hrna hgna
        go_wp2_with fail
        go_ret
        exact ⟨xa, pna, rfl, by omega, by omega, by omega, HRNa.out, HGNa.out⟩
    · have HNa := Lib.hid (l91Name_any r b off n c (p + 1) A _ HR1.out (by omega))
      go_wp2_with fail
      refine HNa.out.mono ?_
      rintro e wna ⟨xa, pna, rfl, hxla, hpaa, hpba, hrna, hgna⟩
      have hsna := hgna.size
      have HRNa := Lib.hid hrna
      have HGNa := Lib.hid (gr_trans HG1.out hgna)
      have hxsa : (⟨xa.toArray⟩ : ByteArray).size ≤ 1000 := by simp [ByteArray.size]; omega
      clear hrna hgna
      go_wp2_with fail
      go_ret
      exact ⟨xa, pna, rfl, by omega, by omega, by omega, HRNa.out, HGNa.out⟩
  · have hzb : ((z : Int) == 0) = false := by simp; omega
    have HP2 := Lib.hid (pick_any r b off n c (p + 1) 7 A _ HR1.out (by decide) (by decide) (by omega))
    go_wp2_with fail
    refine HP2.out.mono ?_
    rintro e w2 ⟨z2, hz2, rfl, hr2, hg2⟩
    have hs2 := hg2.size
    have HR2 := Lib.hid hr2
    have HG2 := Lib.hid (gr_trans HG1.out hg2)
    clear hr2 hg2
    rcases (by omega : z2 = 0 ∨ z2 = 1 ∨ z2 = 2 ∨ z2 = 3 ∨ 4 ≤ z2) with rfl | rfl | rfl | rfl | hz4
    · have HNa := Lib.hid (l91Name_any r b off n c (p + 1 + 1) A _ HR2.out (by omega))
      go_wp2_with fail
      refine HNa.out.mono ?_
      rintro e wna ⟨xa, pna, rfl, hxla, hpaa, hpba, hrna, hgna⟩
      have hsna := hgna.size
      have HRNa := Lib.hid hrna
      have HGNa := Lib.hid (gr_trans HG2.out hgna)
      have hxsa : (⟨xa.toArray⟩ : ByteArray).size ≤ 1000 := by simp [ByteArray.size]; omega
      clear hrna hgna
      have hwl := l1With_any L xa B g cc wna (HL.out.over HGNa.out hB) (by omega)
      obtain ⟨L2, hLe⟩ : ∃ L2, L ++ [xa] = L2 := ⟨_, rfl⟩
      have HLL := Lib.hid (show L2.length = L.length + 1 by rw [← hLe]; simp)
      have HS2 := Lib.hid (HSH.out.snoc hxla)
      rw [hLe] at hwl HS2
      have HW := Lib.hid hwl
      clear hwl hLe
      go_wp2_with fail
      refine HW.out.mono ?_
      rintro e wl ⟨g2, c2, rfl, hrow, hbl⟩
      have hsl := hbl.size
      have HROW := Lib.hid hrow
      have HRL := Lib.hid (HRNa.out.below hbl)
      have HGL := Lib.hid (gr_below HGNa.out hbl)
      clear hrow hbl
      go_wp2_with fail
      have HIb := Lib.hid (IH.out pna _ wna.heap.size g2 c2 L2 HRL.out HROW.out HRNa.out.lt HS2.out (by have := HLL.out; omega) (by omega))
      refine HIb.out.mono ?_
      rintro e wib ⟨ub, pib, rfl, hulb, hiab, hibb, hrib, hgib⟩
      have hsib := hgib.size
      have HRIb := Lib.hid hrib
      have HGIb := Lib.hid (gr_trans HGL.out hgib)
      have husb : (⟨ub.toArray⟩ : ByteArray).size ≤ 1000 := by simp [ByteArray.size]; omega
      clear hrib hgib
      have HBA := Lib.hid (lam_ba xa ub)
      have hln := lamQ_len xa ub
      go_wp2_with fail
      go_ret
      exact ⟨lamQ xa ub, pib, by rw [← HBA.out]; rfl, by omega, by omega, by omega, HRIb.out, HGIb.out⟩
    · have HNa := Lib.hid (l91Name_any r b off n c (p + 1 + 1) A _ HR2.out (by omega))
      go_wp2_with fail
      refine HNa.out.mono ?_
      rintro e wna ⟨xa, pna, rfl, hxla, hpaa, hpba, hrna, hgna⟩
      have hsna := hgna.size
      have HRNa := Lib.hid hrna
      have HGNa := Lib.hid (gr_trans HG2.out hgna)
      have hxsa : (⟨xa.toArray⟩ : ByteArray).size ≤ 1000 := by simp [ByteArray.size]; omega
      clear hrna hgna
      have hwl := l1With_any L xa B g cc wna (HL.out.over HGNa.out hB) (by omega)
      obtain ⟨L2, hLe⟩ : ∃ L2, L ++ [xa] = L2 := ⟨_, rfl⟩
      have HLL := Lib.hid (show L2.length = L.length + 1 by rw [← hLe]; simp)
      have HS2 := Lib.hid (HSH.out.snoc hxla)
      rw [hLe] at hwl HS2
      have HW := Lib.hid hwl
      clear hwl hLe
      go_wp2_with fail
      refine HW.out.mono ?_
      rintro e wl ⟨g2, c2, rfl, hrow, hbl⟩
      have hsl := hbl.size
      have HROW := Lib.hid hrow
      have HRL := Lib.hid (HRNa.out.below hbl)
      have HGL := Lib.hid (gr_below HGNa.out hbl)
      clear hrow hbl
      go_wp2_with fail
      have HIb := Lib.hid (IH.out pna _ wna.heap.size g2 c2 L2 HRL.out HROW.out HRNa.out.lt HS2.out (by have := HLL.out; omega) (by omega))
      refine HIb.out.mono ?_
      rintro e wib ⟨ub, pib, rfl, hulb, hiab, hibb, hrib, hgib⟩
      have hsib := hgib.size
      have HRIb := Lib.hid hrib
      have HGIb := Lib.hid (gr_trans HGL.out hgib)
      have husb : (⟨ub.toArray⟩ : ByteArray).size ≤ 1000 := by simp [ByteArray.size]; omega
      clear hrib hgib
      have HBA := Lib.hid (lam_ba xa ub)
      have hln := lamQ_len xa ub
      go_wp2_with fail
      go_ret
      exact ⟨lamQ xa ub, pib, by rw [← HBA.out]; rfl, by omega, by omega, by omega, HRIb.out, HGIb.out⟩
    · go_wp2_with fail
      have HIb := Lib.hid (IH.out (p + 1 + 1) _ B g cc L HR2.out (HL.out.over HG2.out hB) hB HSH.out (by omega) (by omega))
      refine HIb.out.mono ?_
      rintro e wib ⟨ub, pib, rfl, hulb, hiab, hibb, hrib, hgib⟩
      have hsib := hgib.size
      have HRIb := Lib.hid hrib
      have HGIb := Lib.hid (gr_trans HG2.out hgib)
      have husb : (⟨ub.toArray⟩ : ByteArray).size ≤ 1000 := by simp [ByteArray.size]; omega
      clear hrib hgib
      go_wp2_with fail
      have HIc := Lib.hid (IH.out pib _ B g cc L HRIb.out (HL.out.over HGIb.out hB) hB HSH.out (by omega) (by omega))
      refine HIc.out.mono ?_
      rintro e wic ⟨uc, pic, rfl, hulc, hiac, hibc, hric, hgic⟩
      have hsic := hgic.size
      have HRIc := Lib.hid hric
      have HGIc := Lib.hid (gr_trans HGIb.out hgic)
      have husc : (⟨uc.toArray⟩ : ByteArray).size ≤ 1000 := by simp [ByteArray.size]; omega
      clear hric hgic
      have HBA := Lib.hid (app_ba ub uc)
      have hln := appQ_len ub uc
      go_wp2_with fail
      go_ret
      exact ⟨appQ ub uc, pic, by rw [← HBA.out]; rfl, by omega, by omega, by omega, HRIc.out, HGIc.out⟩
    · go_wp2_with fail
      have HIb := Lib.hid (IH.out (p + 1 + 1) _ B g cc L HR2.out (HL.out.over HG2.out hB) hB HSH.out (by omega) (by omega))
      refine HIb.out.mono ?_
      rintro e wib ⟨ub, pib, rfl, hulb, hiab, hibb, hrib, hgib⟩
      have hsib := hgib.size
      have HRIb := Lib.hid hrib
      have HGIb := Lib.hid (gr_trans HG2.out hgib)
      have husb : (⟨ub.toArray⟩ : ByteArray).size ≤ 1000 := by simp [ByteArray.size]; omega
      clear hrib hgib
      go_wp2_with fail
      have HIc := Lib.hid (IH.out pib _ B g cc L HRIb.out (HL.out.over HGIb.out hB) hB HSH.out (by omega) (by omega))
      refine HIc.out.mono ?_
      rintro e wic ⟨uc, pic, rfl, hulc, hiac, hibc, hric, hgic⟩
      have hsic := hgic.size
      have HRIc := Lib.hid hric
      have HGIc := Lib.hid (gr_trans HGIb.out hgic)
      have husc : (⟨uc.toArray⟩ : ByteArray).size ≤ 1000 := by simp [ByteArray.size]; omega
      clear hric hgic
      have HBA := Lib.hid (app_ba ub uc)
      have hln := appQ_len ub uc
      go_wp2_with fail
      go_ret
      exact ⟨appQ ub uc, pic, by rw [← HBA.out]; rfl, by omega, by omega, by omega, HRIc.out, HGIc.out⟩
    · have hb0 : ((z2 : Int) == 0) = false := by simp; omega
      have hb1 : ((z2 : Int) == 1) = false := by simp; omega
      have hb2 : ((z2 : Int) == 2) = false := by simp; omega
      have hb3 : ((z2 : Int) == 3) = false := by simp; omega
      have HNa := Lib.hid (l91Name_any r b off n c (p + 1 + 1) A _ HR2.out (by omega))
      go_wp2_with fail
      refine HNa.out.mono ?_
      rintro e wna ⟨xa, pna, rfl, hxla, hpaa, hpba, hrna, hgna⟩
      have hsna := hgna.size
      have HRNa := Lib.hid hrna
      have HGNa := Lib.hid (gr_trans HG2.out hgna)
      have hxsa : (⟨xa.toArray⟩ : ByteArray).size ≤ 1000 := by simp [ByteArray.size]; omega
      clear hrna hgna
      have hwl := l1With_any L xa B g cc wna (HL.out.over HGNa.out hB) (by omega)
      obtain ⟨L2, hLe⟩ : ∃ L2, L ++ [xa] = L2 := ⟨_, rfl⟩
      have HLL := Lib.hid (show L2.length = L.length + 1 by rw [← hLe]; simp)
      have HS2 := Lib.hid (HSH.out.snoc hxla)
      rw [hLe] at hwl HS2
      have HW := Lib.hid hwl
      clear hwl hLe
      go_wp2_with fail
      refine HW.out.mono ?_
      rintro e wl ⟨g2, c2, rfl, hrow, hbl⟩
      have hsl := hbl.size
      have HROW := Lib.hid hrow
      have HRL := Lib.hid (HRNa.out.below hbl)
      have HGL := Lib.hid (gr_below HGNa.out hbl)
      clear hrow hbl
      go_wp2_with fail
      have HIb := Lib.hid (IH.out pna _ wna.heap.size g2 c2 L2 HRL.out HROW.out HRNa.out.lt HS2.out (by have := HLL.out; omega) (by omega))
      refine HIb.out.mono ?_
      rintro e wib ⟨ub, pib, rfl, hulb, hiab, hibb, hrib, hgib⟩
      have hsib := hgib.size
      have HRIb := Lib.hid hrib
      have HGIb := Lib.hid (gr_trans HGL.out hgib)
      have husb : (⟨ub.toArray⟩ : ByteArray).size ≤ 1000 := by simp [ByteArray.size]; omega
      clear hrib hgib
      go_wp2_with fail
      have HIc := Lib.hid (IH.out pib _ B g cc L HRIb.out (HL.out.over HGIb.out hB) hB HSH.out (by omega) (by omega))
      refine HIc.out.mono ?_
      rintro e wic ⟨uc, pic, rfl, hulc, hiac, hibc, hric, hgic⟩
      have hsic := hgic.size
      have HRIc := Lib.hid hric
      have HGIc := Lib.hid (gr_trans HGIb.out hgic)
      have husc : (⟨uc.toArray⟩ : ByteArray).size ≤ 1000 := by simp [ByteArray.size]; omega
      clear hric hgic
      have HBA := Lib.hid (red_ba xa ub uc)
      have hln := appQ_len (lamQ xa ub) uc
      have hln2 := lamQ_len xa ub
      go_wp2_with fail
      go_ret
      exact ⟨appQ (lamQ xa ub) uc, pic, by rw [← HBA.out]; rfl, by omega, by omega, by omega, HRIc.out, HGIc.out⟩
end Go.Proofs.YtbabdjcpmjfeoaaGreatDoor

namespace Go.Proofs.YtbabdjcpmjfeoaaGreatDoor
set_option linter.unusedVariables false
open Go.RowKit

theorem l91Term_any (r b off n c : Nat) (A : Option Addr) : ∀ (d : Nat), d ≤ 4 → ∀ p w B g cc L, RdAt w r b off n c A p → SRow w B (.slice (some ⟨g, 0, none⟩) L.length cc) L → r < B → Brief 2 L → L.length + d ≤ 100 → p + 200 * (d + 1) ≤ 1000000 →
    Calls Tryz.prog 67 #[.pointer (some ⟨r, 0, none⟩), .slice (some ⟨g, 0, none⟩) L.length cc, .int .i64 (d : Nat)] w (DqPost (lenQ d) (pkQ d) r b off n c p A w) := by
  intro d
  induction d with
  | zero =>
    intro _ p w B g cc L h hl hB hs hL hp
    exact l91Term_zero r b off n c p B g cc A L w h hl hB hs (by omega) (by omega)
  | succ d ih =>
    intro hd p w B g cc L h hl hB hs hL hp
    have h1 : lenQ d ≤ 400 := by
      have : d = 0 ∨ d = 1 ∨ d = 2 ∨ d = 3 := by omega
      rcases this with rfl | rfl | rfl | rfl <;> decide
    have h2 : pkQ d ≤ 100 := by
      have : d = 0 ∨ d = 1 ∨ d = 2 ∨ d = 3 := by omega
      rcases this with rfl | rfl | rfl | rfl <;> decide
    exact l91Term_succ d (d + 1) r b off n c p B g cc A L w rfl (by omega) h1 h2 (fun p w B g cc L a1 a2 a3 a4 a5 a6 => ih (by omega) p w B g cc L a1 a2 a3 a4 a5 a6) h hl hB hs hL hp

/-- Terms of no names that are given. -/
theorem l91Term_bare (r b off n c d p : Nat) (A : Option Addr) (w w0 : World) (g0 : Nat) (hd : d ≤ 4) (h : RdAt w r b off n c A p) (hl : SRow w g0 (.slice (some ⟨g0, 0, none⟩) 0 0) []) (hB : r < g0) (hp : p ≤ 990000) :
    Calls Tryz.prog 67 #[.pointer (some ⟨r, 0, none⟩), .slice (some ⟨g0, 0, none⟩) 0 0, .int .i64 (d : Nat)] w (DqPost 400 200 r b off n c p A w) := by
  have h1 : lenQ d ≤ 400 ∧ pkQ d ≤ 200 := by
    have : d = 0 ∨ d = 1 ∨ d = 2 ∨ d = 3 ∨ d = 4 := by omega
    rcases this with rfl | rfl | rfl | rfl | rfl <;> decide
  refine (l91Term_any r b off n c A d hd p w g0 g0 0 [] h hl hB (fun x hx => by cases hx) (by simp; omega) (by omega)).mono ?_
  rintro e w1 ⟨x, p', he, hx, ha, hb, hr, hg⟩
  exact ⟨x, p', he, by omega, ha, by omega, hr, hg⟩
theorem none_row (w : World) : SRow (w.alloc (.cells #[] 9)) w.heap.size (.slice (some ⟨w.heap.size, 0, none⟩) 0 0) [] :=
  World.ownsRow_made (base := w.heap.size) (e := 9) (size := 1) w #[] 0 (Nat.le_refl _) (Nat.zero_le _) rfl

set_option maxRecDepth 100000 in
set_option maxHeartbeats 2000000 in
theorem l91Good_any (r b off n c p : Nat) (A : Option Addr) (w : World) (h : RdAt w r b off n c A p) (hp : p ≤ 980000) :
    Calls Tryz.prog 45 #[.pointer (some ⟨r, 0, none⟩)] w (DqPost 400 210 r b off n c p A w) := by
  have hlt := h.lt
  have HP := Lib.hid (pick_any r b off n c p 3 A w h (by decide) (by decide) (by omega))
  clear h
  go_enter Tryz.func45, Tryz.ntmps45
  go_wp2_with fail
  refine HP.out.mono ?_
  rintro e w1 ⟨z, hz, rfl, hr1, hg1⟩
  have hs1 := hg1.size
  have HR1 := Lib.hid hr1
  have HG1 := Lib.hid hg1
  clear hr1 hg1
  rcases (by omega : z = 0 ∨ z = 1 ∨ z = 2) with rfl | rfl | rfl
  · have HK := Lib.hid (l91Known_any r b off n c (p + 1) A _ HR1.out (by omega))
    go_wp2_with fail
    refine HK.out.mono ?_
    rintro e w2 ⟨x, q, rfl, hx, ha, hb, hr2, hg2⟩
    have H := Lib.hid (And.intro hr2 (gr_trans HG1.out hg2))
    clear hr2 hg2
    go_wp2_with fail
    go_ret
    exact ⟨x, q, rfl, by omega, by omega, by omega, H.out⟩
  · have HT := Lib.hid (l91Term_bare r b off n c 3 (p + 1) A _ w1 w1.heap.size (by decide) (HR1.out.alloc (.cells #[] 9)) (none_row w1) (by omega) (by omega))
    go_wp2_with fail
    refine HT.out.mono ?_
    rintro e w2 ⟨x, q, rfl, hx, ha, hb, hr2, hg2⟩
    have H := Lib.hid (And.intro hr2 (gr_trans (gr_new HG1.out (.cells #[] 9)) hg2))
    clear hr2 hg2
    go_wp2_with fail
    go_ret
    exact ⟨x, q, rfl, by omega, by omega, by omega, H.out⟩
  · have HP2 := Lib.hid (pick_any r b off n c (p + 1) 3 A _ (HR1.out.alloc (.cells #[] 9)) (by decide) (by decide) (by omega))
    have HN := Lib.hid (none_row w1)
    have HG1' := Lib.hid (gr_new HG1.out (.cells #[] 9))
    go_wp2_with fail
    refine HP2.out.mono ?_
    rintro e w2 ⟨z2, hz2, rfl, hr2, hg2⟩
    obtain ⟨d2, hd2⟩ : ∃ d2, 2 + z2 = d2 := ⟨_, rfl⟩
    have hw2 : IntKind.i64.wrap (2 + (z2 : Int)) = (d2 : Int) := by rw [show (2 + (z2 : Int)) = (d2 : Int) by omega]; exact IntWalk.i64_in _ (by omega)
    have HT := Lib.hid (l91Term_bare r b off n c d2 (p + 1 + 1) A w2 w1 w1.heap.size (by omega) hr2 (HN.out.over hg2 (by omega)) (by omega) (by omega))
    have HG2 := Lib.hid (gr_trans HG1'.out hg2)
    clear hr2 hg2 hd2
    go_wp2_with fail
    refine HT.out.mono ?_
    rintro e w3 ⟨x, q, rfl, hx, ha, hb, hr3, hg3⟩
    have H := Lib.hid (And.intro hr3 (gr_trans HG2.out hg3))
    clear hr3 hg3
    go_wp2_with fail
    go_ret
    exact ⟨x, q, rfl, by omega, by omega, by omega, H.out⟩

set_option maxRecDepth 100000 in
set_option maxHeartbeats 2000000 in
theorem l91Odd_any (r b off n c p : Nat) (A : Option Addr) (w : World) (h : RdAt w r b off n c A p) (hp : p ≤ 970000) :
    Calls Tryz.prog 24 #[.pointer (some ⟨r, 0, none⟩)] w (DqPost 400 220 r b off n c p A w) := by
  have hlt := h.lt
  have HP := Lib.hid (pick_any r b off n c p 16 A w h (by decide) (by decide) (by omega))
  clear h
  go_enter Tryz.func24, Tryz.ntmps24
  go_wp2_with fail
  refine HP.out.mono ?_
  rintro e w1 ⟨z, hz, rfl, hr1, hg1⟩
  have hs1 := hg1.size
  have HR1 := Lib.hid hr1
  have HG1 := Lib.hid hg1
  clear hr1 hg1
  by_cases hz0 : z = 0
  · subst hz0
    have HK := Lib.hid (of_new [[], [40, 108, 97, 109, 32, 120, 41], [40, 97, 112, 112, 32, 120, 41], [120, 121], [40, 108, 97, 109, 32, 40, 97, 112, 112, 32, 120, 32, 120, 41, 32, 120, 41], [120, 32], [40, 97, 112, 112, 32, 32, 120, 32, 121, 41], [49], [40, 108, 97, 109, 32, 120, 32, 121, 32, 122, 41]] 20 r b off n c (p + 1) A w1 HR1.out (by decide) (by decide) (by omega) (by unfold Brief; decide) _ rfl)
    go_wp2_with fail
    refine HK.out.mono ?_
    rintro e w2 ⟨x, q, rfl, hx, ha, hb, hr2, hg2⟩
    have H := Lib.hid (And.intro hr2 (gr_trans HG1.out hg2))
    clear hr2 hg2
    go_wp2_with fail
    go_ret
    exact ⟨x, q, rfl, by omega, by omega, by omega, H.out⟩
  · have hzb : ((z : Int) == 0) = false := by simp; omega
    have HK := Lib.hid (l91Good_any r b off n c (p + 1) A w1 HR1.out (by omega))
    go_wp2_with fail
    refine HK.out.mono ?_
    rintro e w2 ⟨x, q, rfl, hx, ha, hb, hr2, hg2⟩
    have H := Lib.hid (And.intro hr2 (gr_trans HG1.out hg2))
    clear hr2 hg2
    go_wp2_with fail
    go_ret
    exact ⟨x, q, rfl, by omega, by omega, by omega, H.out⟩

set_option maxRecDepth 100000 in
set_option maxHeartbeats 2000000 in
theorem l91Kind_any (r b off n c p : Nat) (A : Option Addr) (w : World) (h : RdAt w r b off n c A p) (hp : p ≤ 970000) :
    Calls Tryz.prog 23 #[.pointer (some ⟨r, 0, none⟩)] w (DqPost 4 2 r b off n c p A w) := by
  have hlt := h.lt
  have HP := Lib.hid (pick_any r b off n c p 24 A w h (by decide) (by decide) (by omega))
  clear h
  go_enter Tryz.func23, Tryz.ntmps23
  go_wp2_with fail
  refine HP.out.mono ?_
  rintro e w1 ⟨z, hz, rfl, hr1, hg1⟩
  have hs1 := hg1.size
  have HR1 := Lib.hid hr1
  have HG1 := Lib.hid hg1
  clear hr1 hg1
  by_cases hz0 : z = 0
  · subst hz0
    have HK := Lib.hid (of_new [[], [72, 101, 97, 100], [119, 101, 97, 107]] 4 r b off n c (p + 1) A w1 HR1.out (by decide) (by decide) (by omega) (by unfold Brief; decide) _ rfl)
    go_wp2_with fail
    refine HK.out.mono ?_
    rintro e w2 ⟨x, q, rfl, hx, ha, hb, hr2, hg2⟩
    have H := Lib.hid (And.intro hr2 (gr_trans HG1.out hg2))
    clear hr2 hg2
    go_wp2_with fail
    go_ret
    exact ⟨x, q, rfl, by omega, by omega, by omega, H.out⟩
  · have hzb : ((z : Int) == 0) = false := by simp; omega
    have HK := Lib.hid (of_new [[104, 101, 97, 100], [102, 117, 108, 108]] 4 r b off n c (p + 1) A w1 HR1.out (by decide) (by decide) (by omega) (by unfold Brief; decide) _ rfl)
    go_wp2_with fail
    refine HK.out.mono ?_
    rintro e w2 ⟨x, q, rfl, hx, ha, hb, hr2, hg2⟩
    have H := Lib.hid (And.intro hr2 (gr_trans HG1.out hg2))
    clear hr2 hg2
    go_wp2_with fail
    go_ret
    exact ⟨x, q, rfl, by omega, by omega, by omega, H.out⟩
end Go.Proofs.YtbabdjcpmjfeoaaGreatDoor

namespace Go.Proofs.YtbabdjcpmjfeoaaGreatDoor
set_option linter.unusedVariables false
open Go.RowKit

theorem gz_below {B : Nat} {a w w' : World} {r : Nat} (h : Below B a w) (hg : w.grownBy w' (some r)) (hB : B ≤ w.heap.size) (hr : B ≤ r) : Below B a w' :=
  h.grown hg hB (fun k e => by injection e with e; omega)
/-- Two short texts are answered. -/
def TzPost (w : World) (e : Ending) (w' : World) : Prop :=
  ∃ x y : List UInt8, e = .returned (.tuple #[.string ⟨x.toArray⟩, .string ⟨y.toArray⟩]) ∧ x.length ≤ 4 ∧ y.length ≤ 400 ∧ Below w.heap.size w w'

set_option maxRecDepth 100000 in
set_option maxHeartbeats 2000000 in
theorem l91Two_any (b off n c : Nat) (A : Option Addr) (w : World) (h : CodeAt w b off n A) (hn : n ≤ 1048576) (hc : n ≤ c) (hc2 : c ≤ maxLen) :
    Calls Tryz.prog 12 #[.slice A n c] w (TzPost w) := by
  have HO := Lib.hid (l6Open_any b off n c A w h hn hc hc2)
  clear h hc hc2
  go_enter Tryz.func12, Tryz.ntmps12
  go_wp2_with fail
  refine HO.out.mono ?_
  rintro e w1 ⟨m, c', rfl, hr1, hb1⟩
  have hs1 := hb1.size
  have hlt1 := hr1.lt
  have HB1 := Lib.hid hb1
  have HK := Lib.hid (l91Kind_any w.heap.size b off m c' 0 A w1 hr1 (by omega))
  clear hr1 hb1
  go_wp2_with fail
  refine HK.out.mono ?_
  rintro e w2 ⟨x, q2, rfl, hx, ha2, hb2, hr2, hg2⟩
  have hs2 := hg2.size
  have HB2 := Lib.hid (gz_below HB1.out hg2 hs1 (Nat.le_refl _))
  have HD := Lib.hid (l91Odd_any w.heap.size b off m c' q2 A w2 hr2 (by omega))
  clear hr2 hg2
  go_wp2_with fail
  refine HD.out.mono ?_
  rintro e w3 ⟨y, q3, rfl, hy, ha3, hb3, hr3, hg3⟩
  have HB3 := Lib.hid (gz_below HB2.out hg3 (by omega) (Nat.le_refl _))
  clear hr3 hg3
  have HX := Lib.hid (And.intro hx hy)
  clear hx hy
  go_wp2_with fail
  refine bodyPost_ret (v := .tuple #[.string ⟨x.toArray⟩, .string ⟨y.toArray⟩]) (by simp [results, Tryz.results12, go_sem]) rfl ?_
  exact ⟨x, y, rfl, HX.out.1, HX.out.2, HB3.out⟩

set_option maxRecDepth 100000 in
theorem drawNormalOf_any (b off n c : Nat) (A : Option Addr) (w : World) (h : CodeAt w b off n A) (hn : n ≤ 1048576) (hc : n ≤ c) (hc2 : c ≤ maxLen) :
    Calls Tryz.prog 7 #[.slice A n c] w (TzPost w) := by
  have HD := Lib.hid (l91Two_any b off n c A w h hn hc hc2)
  clear h hc hc2
  go_enter Tryz.func7, Tryz.ntmps7
  go_wp2_with fail
  refine HD.out.mono ?_
  rintro e w1 ⟨x, y, rfl, hx, hy, hb⟩
  have H := Lib.hid (And.intro hx (And.intro hy hb))
  clear hx hy hb
  go_wp2_with fail
  refine bodyPost_ret (v := .tuple #[.string ⟨x.toArray⟩, .string ⟨y.toArray⟩]) (by simp [results, Tryz.results7, go_sem]) rfl ?_
  exact ⟨x, y, rfl, H.out⟩
end Go.Proofs.YtbabdjcpmjfeoaaGreatDoor

namespace Go.Proofs.YtbabdjcpmjfeoaaGreatDoor
set_option linter.unusedVariables false

theorem headD_bare (d : DB) : (headD d.bare).map DB.bare = (headD d).map DB.bare := by
  induction d with
  | free x => rfl
  | bnd i => rfl
  | lam x b ih =>
    simp only [DB.bare, headD, Option.map_map]
    have h : ∀ y, (DB.bare ∘ DB.lam y) = (DB.lam []) ∘ DB.bare := fun y => rfl
    rw [h, h, ← Option.map_map, ← Option.map_map, ih]
  | app f a ihf iha =>
    cases f with
    | lam y c =>
      simp only [DB.bare, headD, Option.map_some]
      rw [bare_putB_congr 0 (bare_bare a) (bare_bare c)]
    | free y => rfl
    | bnd i => rfl
    | app g c =>
      have e1 : headD (DB.app (DB.app g c) a) = (headD (.app g c)).map fun g => .app g a := by simp only [headD]
      have e2 : headD (DB.app (DB.app g c) a).bare = (headD (DB.app g c).bare).map fun g => .app g a.bare := by simp only [DB.bare, headD]
      rw [e1, e2, Option.map_map, Option.map_map]
      have h1 : (DB.bare ∘ fun g => DB.app g a.bare) = (fun g => DB.app g a.bare) ∘ DB.bare := by funext g; simp [DB.bare, bare_bare]
      have h2 : (DB.bare ∘ fun g => DB.app g a) = (fun g => DB.app g a.bare) ∘ DB.bare := by funext g; simp [DB.bare]
      rw [h1, h2, ← Option.map_map, ← Option.map_map, ihf]
theorem isLam_bare (d : DB) : d.bare.isLam = d.isLam := by cases d <;> rfl
theorem fullD_bare (d : DB) : (fullD d.bare).map DB.bare = (fullD d).map DB.bare := by
  induction d with
  | free x => rfl
  | bnd i => rfl
  | lam x b ih =>
    simp only [DB.bare, fullD, Option.map_map]
    have h : ∀ y, (DB.bare ∘ DB.lam y) = (DB.lam []) ∘ DB.bare := fun y => rfl
    rw [h, h, ← Option.map_map, ← Option.map_map, ih]
  | app f a ihf iha =>
    by_cases hl : f.isLam = true
    · cases f with
      | lam y c =>
        simp only [DB.bare, fullD, Option.map_some]
        rw [bare_putB_congr 0 (bare_bare a) (bare_bare c)]
      | free y => cases hl
      | bnd i => cases hl
      | app g c => cases hl
    · have hl : f.isLam = false := by cases h : f.isLam; rfl; exact absurd h hl
      rw [fullD_app f a hl]
      show (fullD (.app f.bare a.bare)).map DB.bare = _
      rw [fullD_app f.bare a.bare (by rw [isLam_bare]; exact hl)]
      cases h1 : fullD f with
      | some g =>
        rw [h1] at ihf
        cases h2 : fullD f.bare with
        | none => rw [h2] at ihf; cases ihf
        | some g2 =>
          rw [h2] at ihf
          simp only [Option.map_some, Option.some.injEq] at ihf
          simp [DB.bare, ihf, bare_bare]
      | none =>
        rw [h1] at ihf
        cases h2 : fullD f.bare with
        | some g2 => rw [h2] at ihf; cases ihf
        | none =>
          simp only [Option.map_map]
          have e1 : (DB.bare ∘ DB.app f.bare) = (DB.app f.bare) ∘ DB.bare := by funext g; simp [DB.bare, bare_bare]
          have e2 : (DB.bare ∘ DB.app f) = (DB.app f.bare) ∘ DB.bare := by funext g; simp [DB.bare]
          rw [e1, e2, ← Option.map_map, ← Option.map_map, iha]
theorem stepD_bare (k : Bool) (d : DB) : (stepD k d.bare).map DB.bare = (stepD k d).map DB.bare := by
  unfold stepD
  cases k
  · simpa using fullD_bare d
  · simpa using headD_bare d
theorem stepD_congr (k : Bool) {d e : DB} (h : d.bare = e.bare) : (stepD k d).map DB.bare = (stepD k e).map DB.bare := by
  rw [← stepD_bare k d, h, stepD_bare]
theorem stepD_none (k : Bool) {d e : DB} (h : d.bare = e.bare) : (stepD k d).isNone = (stepD k e).isNone := by
  have := stepD_congr k h
  cases h1 : stepD k d <;> cases h2 : stepD k e <;> simp [h1, h2] at this ⊢

/-- A free name is bound, n lambdas further out. -/
def capt (q : List UInt8) : Nat → DB → DB
  | n, .free x => if q = x then .bnd n else .free x
  | _, .bnd i => .bnd i
  | n, .lam x b => .lam x (capt q (n + 1) b)
  | n, .app f a => .app (capt q n f) (capt q n a)
theorem bare_capt (q : List UInt8) (d : DB) : ∀ n, (capt q n d).bare = capt q n d.bare := by
  induction d with
  | free x => intro n; simp only [capt, DB.bare]; split <;> rfl
  | bnd i => intro n; rfl
  | lam x b ih => intro n; simp [capt, DB.bare, ih]
  | app f a h1 h2 => intro n; simp [capt, DB.bare, h1, h2]
theorem lk_snoc (rs : List (List UInt8)) (q x : List UInt8) : lk (rs ++ [q]) x = match lk rs x with
    | some i => some i
    | none => if q = x then some rs.length else none := by
  induction rs with
  | nil => simp [lk]
  | cons y r ih =>
    simp only [List.cons_append, lk]
    by_cases h : y = x
    · rw [if_pos h, if_pos h]
    · rw [if_neg h, if_neg h, ih]
      cases lk r x with
      | some i => rfl
      | none => by_cases hq : q = x <;> simp [hq]
theorem toDB_capt (q : List UInt8) (t : Tm) : ∀ rs, toDB (rs ++ [q]) t = capt q rs.length (toDB rs t) := by
  induction t with
  | var x =>
    intro rs
    simp only [toDB, lk_snoc]
    cases lk rs x with
    | some i => rfl
    | none => by_cases hq : q = x <;> simp [hq, capt]
  | lam x b ih =>
    intro rs
    have := ih (x :: rs)
    simp only [List.cons_append, List.length_cons] at this
    simp only [toDB, capt, this]
  | app f a h1 h2 => intro rs; simp only [toDB, capt, h1, h2]
theorem alpha_in (q : List UInt8) {s t : Tm} (h : (toDB [] s).bare = (toDB [] t).bare) : (toDB [q] s).bare = (toDB [q] t).bare := by
  have h1 := toDB_capt q s []
  have h2 := toDB_capt q t []
  simp only [List.nil_append, List.length_nil] at h1 h2
  rw [h1, h2, bare_capt, bare_capt, h]

/-- U is T under a lambda, but for the names of what is bound. -/
def Undr (q : List UInt8) (T U : Tm) : Prop := (toDB [] U).bare = .lam [] (toDB [q] T).bare
theorem Undr.start (q : List UInt8) (T : Tm) : Undr q T (.lam q T) := rfl
theorem Undr.atoms {q : List UInt8} {T U : Tm} (h : Undr q T U) : U.atoms = T.atoms + 2 := by
  have e : (toDB [] U).bare = (DB.lam [] (toDB [q] T)).bare := h
  have := atoms_congr e
  simp only [DB.atoms, atoms_toDB] at this
  omega
theorem Undr.can {q : List UInt8} {T U : Tm} (h : Undr q T U) : Undr q (canT T) (canT U) := by
  unfold Undr at h ⊢
  rw [toDB_canT, bare_canD, h]
  have := alpha_in q (s := canT T) (t := T) (by rw [toDB_canT, bare_canD])
  rw [this]
theorem stepD_lam (k : Bool) (x : List UInt8) (b : DB) : stepD k (.lam x b) = (stepD k b).map (.lam x) := by cases k <;> rfl
theorem Undr.normal {q : List UInt8} {T U : Tm} (h : Undr q T U) (k : Bool) (hok : T.ok) (hat : T.atoms ≤ 400) (huok : U.ok) (huat : U.atoms ≤ 400) : (stepR k U).2 = 0 ↔ (stepR k T).2 = 0 := by
  have e : (toDB [] U).bare = (DB.lam [] (toDB [q] T)).bare := h
  have h1 := stepD_none k e
  rw [stepD_lam, norm_eq k U huok huat] at h1
  have h2 : (stepD k (toDB [q] T)).isNone = decide ((stepR k T).2 = 0) := by
    rcases kind_steps k T [q] hok hat with ⟨a1, a2⟩ | ⟨a1, d, a2, a3, a4⟩ | ⟨a1, d, a2, a3⟩
    · rw [a1, a2]; rfl
    · rw [a2, a1]; rfl
    · rw [a2, a1]; rfl
  have h3 : ((stepD k (toDB [q] T)).map (DB.lam [])).isNone = (stepD k (toDB [q] T)).isNone := by cases stepD k (toDB [q] T) <;> rfl
  rw [h3, h2] at h1
  simpa using h1
theorem nextT_some (k : Bool) (t o : Tm) : nextT k t = some o ↔ (stepR k t).2 = 1 ∧ (stepR k t).1.atoms ≤ 400 ∧ o = canT (stepR k t).1 := by
  unfold nextT
  by_cases h : (stepR k t).2 = 1
  · by_cases h2 : (stepR k t).1.atoms ≤ 400
    · simp [h, h2, eq_comm]
    · simp [h, h2]
  · simp [h]
theorem Undr.next {q : List UInt8} {T U U' : Tm} (h : Undr q T U) (k : Bool) (hok : T.ok) (hat : T.atoms ≤ 400) (huok : U.ok) (huat : U.atoms ≤ 400) (hn : nextT k U = some U') :
    ∃ T', nextT k T = some T' ∧ Undr q T' U' := by
  obtain ⟨u1, u2, rfl⟩ := (nextT_some k U U').1 hn
  have e : (toDB [] U).bare = (DB.lam [] (toDB [q] T)).bare := h
  have hc := stepD_congr k e
  rw [stepD_lam] at hc
  rcases kind_steps k U [] huok huat with ⟨a1, a2⟩ | ⟨a1, d, a2, a3, a4⟩ | ⟨a1, d, a2, a3⟩
  · rw [a1] at u1; cases u1
  · rw [a2] at hc
    rcases kind_steps k T [q] hok hat with ⟨b1, b2⟩ | ⟨b1, d', b2, b3, b4⟩ | ⟨b1, d', b2, b3⟩
    · rw [b2] at hc; cases hc
    · rw [b2] at hc
      simp only [Option.map_some, Option.some.injEq, DB.bare] at hc
      have hu : Undr q (stepR k T).1 (stepR k U).1 := by
        unfold Undr
        rw [a3, hc, b3]
      have ha := hu.atoms
      exact ⟨canT (stepR k T).1, (nextT_some k T _).2 ⟨b1, by omega, rfl⟩, hu.can⟩
    · rw [b2] at hc
      simp only [Option.map_some, Option.some.injEq, DB.bare] at hc
      have h3 : d.bare = (DB.lam [] d').bare := hc
      have ha := atoms_congr h3
      have hb := atoms_congr a3
      rw [atoms_toDB] at hb
      simp only [DB.atoms] at ha
      omega
  · rw [a1] at u1; cases u1
theorem many_undr (q : List UInt8) (k : Bool) : ∀ n T U, Undr q T U → T.ok → T.atoms ≤ 400 → U.ok → U.atoms ≤ 400 → (stepR k (manyT k n U).1).2 = 0 → (manyT k n U).2 = (manyT k n T).2 ∧ Undr q (manyT k n T).1 (manyT k n U).1 := by
  intro n
  induction n with
  | zero => intro T U h _ _ _ _ _; exact ⟨rfl, h⟩
  | succ n ih =>
    intro T U h hok hat huok huat hs
    cases hn : nextT k U with
    | none =>
      simp only [manyT, hn] at hs ⊢
      have h0 := (h.normal k hok hat huok huat).1 hs
      have hT : nextT k T = none := by
        unfold nextT
        rw [if_neg (by omega)]
      simp only [hT]
      exact ⟨trivial, h⟩
    | some U' =>
      obtain ⟨T', hT, hu⟩ := h.next k hok hat huok huat hn
      simp only [manyT, hn, hT] at hs ⊢
      have g := fun t o (ht : t.ok) (ha : t.atoms ≤ 400) (hx : nextT k t = some o) => (show o.ok ∧ o.atoms ≤ 400 from by
        have := many_good k 1 t ht ha
        simpa only [manyT, hx] using this)
      obtain ⟨g1, g2⟩ := g T T' hok hat hT
      obtain ⟨g3, g4⟩ := g U U' huok huat hn
      obtain ⟨r1, r2⟩ := ih T' U' hu g1 g2 g3 g4 hs
      exact ⟨by rw [r1], r2⟩

theorem dl_bare (d : DB) : (dLams d.bare).length = (dLams d).length := by
  induction d with
  | lam x b ih => simp only [DB.bare, dLams, List.length_cons, ih]
  | free x => rfl
  | bnd i => rfl
  | app f a _ _ => rfl
theorem dr_bare (d : DB) : (dArgs d.bare).length = (dArgs d).length := by
  induction d with
  | lam x b ih => rfl
  | free x => rfl
  | bnd i => rfl
  | app f a h1 _ => simp only [DB.bare, dArgs, List.length_append, List.length_singleton, h1]
theorem db_bare (d : DB) : dBody d.bare = (dBody d).bare := by
  induction d with
  | lam x b ih => simp only [DB.bare, dBody, ih]
  | free x => rfl
  | bnd i => rfl
  | app f a _ _ => rfl
theorem sz_bare (d : DB) : d.bare.size = d.size := by
  induction d with
  | lam x b ih => simp only [DB.bare, DB.size, ih]
  | free x => rfl
  | bnd i => rfl
  | app f a h1 h2 => simp only [DB.bare, DB.size, h1, h2]
theorem dl_toDB (t : Tm) : ∀ rs, (dLams (toDB rs t)).length = (lamsOf t).length := by
  induction t with
  | lam x b ih => intro rs; simp only [toDB, dLams, lamsOf, List.length_cons, ih]
  | var x => intro rs; simp only [toDB]; cases lk rs x <;> rfl
  | app f a _ _ => intro rs; rfl
theorem dr_toDB (t : Tm) : ∀ rs, (dArgs (toDB rs t)).length = (argsOf t).length := by
  induction t with
  | lam x b ih => intro rs; rfl
  | var x => intro rs; simp only [toDB]; cases lk rs x <;> rfl
  | app f a h1 _ => intro rs; simp only [toDB, dArgs, argsOf, List.length_append, List.length_singleton, h1]
theorem da_toDB (t : Tm) : ∀ rs, (dArgs (dBody (toDB rs t))).length = (argsOf (bodyOf t)).length := by
  induction t with
  | lam x b ih => intro rs; simp only [toDB, dBody, bodyOf, ih]
  | var x => intro rs; simp only [toDB]; cases lk rs x <;> rfl
  | app f a _ _ =>
    intro rs
    have := dr_toDB (.app f a) rs
    simpa only [toDB, dBody, bodyOf] using this
/-- What is measured, of a term with depths. -/
def meB (k : Bool) (d : DB) : Nat := if k then (dLams d).length + (dArgs (dBody d)).length else d.size
theorem meB_bare (k : Bool) (d : DB) : meB k d.bare = meB k d := by
  cases k
  · exact sz_bare d
  · simp only [meB, if_true, dl_bare, db_bare, dr_bare]
theorem meB_lam (k : Bool) (x : List UInt8) (d : DB) : meB k (.lam x d) = meB k d + 1 := by
  cases k <;> simp [meB, dLams, dBody, DB.size] <;> omega
/-- What is measured, of a term. -/
def meW (k : Bool) (t : Tm) : Nat := if k then (lamsOf t).length + (argsOf (bodyOf t)).length else t.size
theorem meB_toDB (k : Bool) (t : Tm) (rs : List (List UInt8)) : meB k (toDB rs t) = meW k t := by
  cases k
  · simp [meB, meW, toDB_size]
  · simp [meB, meW, dl_toDB, da_toDB]
theorem Undr.measure {q : List UInt8} {T U : Tm} (h : Undr q T U) (k : Bool) : meW k U = meW k T + 1 := by
  rw [← meB_toDB k U [], ← meB_bare, h, meB_lam, meB_bare, meB_toDB]
theorem normal_can (k : Bool) (u : Tm) (hok : u.ok) (hat : u.atoms ≤ 400) (h : (stepR k u).2 = 0) : (stepR k (canT u)).2 = 0 := by
  have h1 := norm_eq k u hok hat
  have h2 := norm_eq k (canT u) (canT_ok u hok hat) (by rw [canT_atoms]; exact hat)
  rw [toDB_canT, stepD_none k (bare_canD (toDB [] u)), h1] at h2
  simpa [h] using h2
/-- Where a term and the term under a lambda both have normal forms, as many steps lead to them, both are normal, and the measure is one more. -/
theorem within (k : Bool) (q : List UInt8) (T o o2 : Tm) (n n2 : Nat) (hq : isNm q = true) (hok : T.ok) (hat : T.atoms + 2 ≤ 400) (h : noT k T = some (o, n)) (h2 : noT k (.lam q T) = some (o2, n2)) :
    n2 = n ∧ (stepR k o).2 = 0 ∧ (stepR k o2).2 = 0 ∧ meW k o2 = meW k o + 1 := by
  unfold noT at h h2
  split at h
  · rename_i c1
    split at h2
    · rename_i c2
      injection h with h
      injection h with e1 e2
      injection h2 with h2
      injection h2 with e3 e4
      have hU : (Tm.lam q T).ok := ⟨hq, hok⟩
      have hUa : (Tm.lam q T).atoms ≤ 400 := by simp only [Tm.atoms]; omega
      obtain ⟨r1, r2⟩ := many_undr q k 200 T (.lam q T) (Undr.start q T) hok (by omega) hU hUa c2
      obtain ⟨g1, g2⟩ := many_good k 200 T hok (by omega)
      obtain ⟨g3, g4⟩ := many_good k 200 (.lam q T) hU hUa
      subst e1 e2 e3 e4
      exact ⟨r1, normal_can k _ g1 g2 c1, normal_can k _ g3 g4 c2, r2.can.measure k⟩
    · cases h2
  · cases h
end Go.Proofs.YtbabdjcpmjfeoaaGreatDoor

namespace Go.Proofs.YtbabdjcpmjfeoaaGreatDoor
set_option linter.unusedVariables false
open Go.RowKit

/-- q99. -/
def q99 : List UInt8 := [113, 57, 57]
/-- The text of a lambda over q99. -/
def outQ (y : List UInt8) : List UInt8 := [40, 108, 97, 109, 32, 113, 57, 57, 32] ++ (y ++ [41])
theorem outq_ba (y : List UInt8) : ((⟨#[40, 108, 97, 109, 32, 113, 57, 57, 32]⟩ : ByteArray) ++ ⟨y.toArray⟩) ++ ⟨#[41]⟩ = ⟨(outQ y).toArray⟩ := by
  apply WideShapes.bytes_inj
  simp [outQ, ByteArray.data_append]
theorem outq_rd (y : List UInt8) (T : Tm) (h : rdTerm y = some T) : rdTerm (outQ y) = none ∨ rdTerm (outQ y) = some (.lam q99 T) := by
  have hy := wr_rdTerm y T h
  obtain ⟨hok, hat⟩ := rdTerm_good _ _ h
  have e : outQ y = wrTm (.lam q99 T) := by rw [hy]; simp [outQ, wrTm, q99]
  rw [e, rdTerm_wr (.lam q99 T) ⟨by decide, hok⟩]
  split
  · exact .inr rfl
  · exact .inl rfl
theorem noO_cases (x y : List UInt8) : noO (rdKind x) (rdTerm y) = none ∨ ∃ k T o n, rdKind x = some k ∧ rdTerm y = some T ∧ noT k T = some (o, n) := by
  cases hk : rdKind x with
  | none => exact .inl (noO_no _ _ (.inl rfl))
  | some k =>
    cases ht : rdTerm y with
    | none => exact .inl (noO_no _ _ (.inr rfl))
    | some T =>
      cases hn : noT k T with
      | none => exact .inl (by simp only [noO, hn, Option.map_none])
      | some p => exact .inr ⟨k, T, p.1, p.2, rfl, rfl, hn⟩
/-- What the law is told of its texts, where there is a normal form: s its text, n the steps, v whether the outer text is a term, p what becomes of it. -/
structure Toldw (x y s : List UInt8) (n : Nat) (v : Bool) (p : Option (List UInt8 × Nat)) : Prop where
  nrm : noO (rdKind x) (rdTerm y) = some (s, n)
  val : (rdTerm (outQ y)).isSome = v
  out : noO (rdKind x) (rdTerm (outQ y)) = p
  len : s.length ≤ 4800
  bad : v = false → p = none
  mes : ∀ s2 n2, p = some (s2, n2) → s2.length ≤ 4800 ∧ n2 = n ∧ ∃ m : Nat, m ≤ 400 ∧ meO (rdKind x) (rdTerm s) = (m : Int) ∧ meO (rdKind x) (rdTerm s2) = ((m + 1 : Nat) : Int)
theorem meO_of {k : Bool} {o : Tm} (h : (stepR k o).2 = 0) : meO (some k) (some o) = ((meW k o : Nat) : Int) := by
  show (if (stepR k o).2 = 0 then ((meT k o : Nat) : Int) else -1) = _
  rw [if_pos h]
  rfl
theorem meW_few (k : Bool) (T : Tm) (hat : T.atoms ≤ 400) : meW k T ≤ 400 := by
  have h1 := argsOf_size (bodyOf T)
  have h2 := bodyOf_size T
  have h3 := size_atoms T
  have h4 : (lamsOf T).length + (argsOf (bodyOf T)).length ≤ T.size := by
    clear h1 h2 h3 hat
    induction T with
    | var x => simp [lamsOf, bodyOf, argsOf]
    | lam x b ih => simp only [lamsOf, bodyOf, Tm.size, List.length_cons]; omega
    | app f a _ _ =>
      have h := argsOf_size (.app f a)
      simp only [lamsOf, bodyOf, List.length_nil, Nat.zero_add]
      exact h
  cases k
  · show T.size ≤ 400; omega
  · show (lamsOf T).length + (argsOf (bodyOf T)).length ≤ 400; omega
theorem toldw_of (x y : List UInt8) (k : Bool) (T o : Tm) (n : Nat) (hk : rdKind x = some k) (ht : rdTerm y = some T) (hn : noT k T = some (o, n)) : ∃ s n v p, Toldw x y s n v p := by
  obtain ⟨hok, hat⟩ := rdTerm_good _ _ ht
  obtain ⟨g1, g2⟩ := noT_good k T hok hat o n hn
  have hl := wrTm_short o g1
  refine ⟨wrTm o, n, _, _, ?_, rfl, rfl, by omega, ?_, ?_⟩
  · rw [hk, ht]; simp only [noO, hn, Option.map_some]
  · intro hv
    cases h : rdTerm (outQ y) with
    | none => exact noO_no _ _ (.inr rfl)
    | some u => rw [h] at hv; cases hv
  · intro s2 n2 hp
    rcases outq_rd y T ht with h1 | h1
    · rw [h1, noO_no _ _ (.inr rfl)] at hp; cases hp
    · rw [h1, hk] at hp
      obtain ⟨gk, ga⟩ := rdTerm_good _ _ h1
      cases h2 : noT k (.lam q99 T) with
      | none => simp only [noO, h2, Option.map_none] at hp; cases hp
      | some p2 =>
        obtain ⟨o2, m2⟩ := p2
        simp only [noO, h2, Option.map_some, Option.some.injEq, Prod.mk.injEq] at hp
        obtain ⟨rfl, rfl⟩ := hp
        obtain ⟨k1, k2⟩ := noT_good k _ gk ga o2 m2 h2
        simp only [Tm.atoms] at ga
        obtain ⟨r1, r2, r3, r4⟩ := within k q99 T o o2 n m2 (by decide) hok (by omega) hn h2
        have hl2 := wrTm_short o2 k1
        refine ⟨by omega, r1, meW k o, meW_few k o g2, ?_, ?_⟩
        · rw [rdTerm_wr o g1, if_pos g2, hk]; exact meO_of r2
        · rw [rdTerm_wr o2 k1, if_pos k2, hk, ← r4]; exact meO_of r3

theorem bytes_le (l : List UInt8) (h : l.length ≤ 5000) : (⟨l.toArray⟩ : ByteArray).size ≤ maxLen := by
  simp only [ByteArray.size, List.size_toArray]
  unfold maxLen
  omega

set_option maxRecDepth 100000 in
set_option maxHeartbeats 4000000 in
theorem withinLaw_walk (b off n c : Nat) (A : Option Addr) (w : World) (h : CodeAt w b off n A) (hc : n ≤ c) (hc2 : c ≤ maxLen) (htab : Tab w) :
    Calls Tryz.prog 4 #[.slice A n c] w fun e w' => e = .returned (.bool true) ∧ Below w.heap.size w w' := by
  have HT := Lib.hid htab
  clear htab
  by_cases hn : n ≤ 1048576
  · have HD := Lib.hid (drawNormalOf_any b off n c A w h hn hc hc2)
    unfold maxLen at hc2
    clear h
    go_enter Tryz.func4, Tryz.ntmps4
    go_wp2_with fail
    refine HD.out.mono ?_
    rintro e w1 ⟨x, y, rfl, hx, hy, hb1⟩
    have hz1 := hb1.size
    have HB1 := Lib.hid hb1
    clear hb1
    have hym : (⟨y.toArray⟩ : ByteArray).size ≤ maxLen := bytes_le y (by omega)
    have hom : (⟨(outQ y).toArray⟩ : ByteArray).size ≤ maxLen := bytes_le _ (by unfold outQ; simp; omega)
    have IM := Lib.hid (fun w' (h : Below w.heap.size w w') => implNormalOf_any x ⟨y.toArray⟩ w' hym (HT.out.below h))
    have SP := Lib.hid (fun w' => specNormalOf_any x ⟨y.toArray⟩ w' hym)
    have hyl : (⟨y.toArray⟩ : ByteArray).data.toList = y := rfl
    rw [hyl] at IM SP
    unfold TnPost at IM SP
    have hys : (⟨y.toArray⟩ : ByteArray).size ≤ 400 := by simp only [ByteArray.size, List.size_toArray]; omega
    rcases noO_cases x y with hm | ⟨k, T, o, nn, hk, ht, hnn⟩
    · rw [hm] at IM SP
      simp only [tnS, tnN, Option.isSome] at IM SP
      clear hm hyl hym hom hx
      go_wp2_with fail
      refine (IM.out _ HB1.out).mono ?_
      rintro e w2 ⟨rfl, hb2⟩
      have HB2 := Lib.hid (HB1.out.trans (hb2.mono hz1))
      have hz2 := HB2.out.size
      clear hb2
      go_wp2_with fail
      refine (SP.out _).mono ?_
      rintro e w3 ⟨rfl, hb3⟩
      have HB3 := Lib.hid (HB2.out.trans (hb3.mono hz2))
      have hz3 := HB3.out.size
      clear hb3
      go_wp2_with fail
      go_ret
      exact ⟨rfl, HB3.out⟩
    · obtain ⟨s, m, v, p, t1, t2, t3, t4, t5, t6⟩ := toldw_of x y k T o nn hk ht hnn
      have IV := Lib.hid (fun w' => implTermValid_any ⟨(outQ y).toArray⟩ w' hom)
      have IO := Lib.hid (fun w' (h : Below w.heap.size w w') => implNormalOf_any x ⟨(outQ y).toArray⟩ w' hom (HT.out.below h))
      have hol : (⟨(outQ y).toArray⟩ : ByteArray).data.toList = outQ y := rfl
      rw [hol] at IV IO
      rw [← outq_ba] at IV IO
      unfold TnPost at IO
      rw [t1] at IM SP
      rw [t2] at IV
      rw [t3] at IO
      simp only [tnS, tnN, Option.isSome] at IM SP
      have hss : (s == s) = true := by simp
      clear hyl hol hym hom hx hk ht hnn t1 t2 t3
      cases p with
      | none =>
        simp only [tnS, tnN, Option.isSome] at IO
        clear t4 t5 t6
        cases v
        · go_wp2_with fail
          refine (IM.out _ HB1.out).mono ?_
          rintro e w2 ⟨rfl, hb2⟩
          have HB2 := Lib.hid (HB1.out.trans (hb2.mono hz1))
          have hz2 := HB2.out.size
          clear hb2
          go_wp2_with fail
          refine (SP.out _).mono ?_
          rintro e w3 ⟨rfl, hb3⟩
          have HB3 := Lib.hid (HB2.out.trans (hb3.mono hz2))
          have hz3 := HB3.out.size
          clear hb3
          go_wp2_with fail
          refine (IO.out _ HB3.out).mono ?_
          rintro e w4 ⟨rfl, hb4⟩
          have HB4 := Lib.hid (HB3.out.trans (hb4.mono hz3))
          have hz4 := HB4.out.size
          clear hb4
          go_wp2_with fail
          refine (IV.out _).mono ?_
          rintro e w5 ⟨rfl, hb5⟩
          have HB5 := Lib.hid (HB4.out.trans (hb5.mono hz4))
          have hz5 := HB5.out.size
          clear hb5
          go_wp2_with fail
          go_ret
          exact ⟨rfl, HB5.out⟩
        · go_wp2_with fail
          refine (IM.out _ HB1.out).mono ?_
          rintro e w2 ⟨rfl, hb2⟩
          have HB2 := Lib.hid (HB1.out.trans (hb2.mono hz1))
          have hz2 := HB2.out.size
          clear hb2
          go_wp2_with fail
          refine (SP.out _).mono ?_
          rintro e w3 ⟨rfl, hb3⟩
          have HB3 := Lib.hid (HB2.out.trans (hb3.mono hz2))
          have hz3 := HB3.out.size
          clear hb3
          go_wp2_with fail
          refine (IO.out _ HB3.out).mono ?_
          rintro e w4 ⟨rfl, hb4⟩
          have HB4 := Lib.hid (HB3.out.trans (hb4.mono hz3))
          have hz4 := HB4.out.size
          clear hb4
          go_wp2_with fail
          refine (IV.out _).mono ?_
          rintro e w5 ⟨rfl, hb5⟩
          have HB5 := Lib.hid (HB4.out.trans (hb5.mono hz4))
          have hz5 := HB5.out.size
          clear hb5
          go_wp2_with fail
          go_ret
          exact ⟨rfl, HB5.out⟩
      | some p2 =>
        obtain ⟨s2, n2⟩ := p2
        have hv : v = true := by cases v; exact absurd (t5 rfl) (by simp); rfl
        subst hv
        obtain ⟨l2, rfl, mm, hmm, e1, e2⟩ := t6 s2 n2 rfl
        have M1 := Lib.hid (fun w' => implMeasure_any x ⟨s.toArray⟩ w' (bytes_le s (by omega)))
        have M2 := Lib.hid (fun w' => implMeasure_any x ⟨s2.toArray⟩ w' (bytes_le s2 (by omega)))
        have hs1 : (⟨s.toArray⟩ : ByteArray).data.toList = s := rfl
        have hs2 : (⟨s2.toArray⟩ : ByteArray).data.toList = s2 := rfl
        rw [hs1, e1] at M1
        rw [hs2, e2] at M2
        simp only [tnS, tnN, Option.isSome] at IO
        have hw1 : IntKind.i64.wrap ((mm : Int) + 1) = ((mm + 1 : Nat) : Int) := by rw [show ((mm : Int) + 1) = ((mm + 1 : Nat) : Int) by omega]; exact IntWalk.i64_in _ (by omega)
        clear t4 t5 t6 e1 e2 hs1 hs2 l2
        go_wp2_with fail
        refine (IM.out _ HB1.out).mono ?_
        rintro e w2 ⟨rfl, hb2⟩
        have HB2 := Lib.hid (HB1.out.trans (hb2.mono hz1))
        have hz2 := HB2.out.size
        clear hb2
        go_wp2_with fail
        refine (SP.out _).mono ?_
        rintro e w3 ⟨rfl, hb3⟩
        have HB3 := Lib.hid (HB2.out.trans (hb3.mono hz2))
        have hz3 := HB3.out.size
        clear hb3
        go_wp2_with fail
        refine (IO.out _ HB3.out).mono ?_
        rintro e w4 ⟨rfl, hb4⟩
        have HB4 := Lib.hid (HB3.out.trans (hb4.mono hz3))
        have hz4 := HB4.out.size
        clear hb4
        go_wp2_with fail
        refine (IV.out _).mono ?_
        rintro e w5 ⟨rfl, hb5⟩
        have HB5 := Lib.hid (HB4.out.trans (hb5.mono hz4))
        have hz5 := HB5.out.size
        clear hb5
        go_wp2_with fail
        refine (M2.out _).mono ?_
        rintro e w6 ⟨rfl, hb6⟩
        have HB6 := Lib.hid (HB5.out.trans (hb6.mono hz5))
        have hz6 := HB6.out.size
        clear hb6
        go_wp2_with fail
        refine (M1.out _).mono ?_
        rintro e w7 ⟨rfl, hb7⟩
        have HB7 := Lib.hid (HB6.out.trans (hb7.mono hz6))
        have hz7 := HB7.out.size
        clear hb7
        go_wp2_with fail
        go_ret
        exact ⟨rfl, HB7.out⟩
  · unfold maxLen at hc2
    go_enter Tryz.func4, Tryz.ntmps4
    go_wp2_with fail
    go_ret
    exact ⟨rfl, Below.refl _ _⟩
end Go.Proofs.YtbabdjcpmjfeoaaGreatDoor

