/- Terms that are drawn: of what is drawn the length alone is known. -/
import Derived.Test.YtljkmeloleeopaaDO
import Derived.Test.YtljkmeloleeopaaFW
namespace Go.Proofs.Ytljkmeloleeopaa
set_option linter.unusedVariables false
open Go.RowKit

theorem gq_refl (w : World) (r : Nat) : w.grownBy w (some r) := ⟨rfl, rfl, rfl, Nat.le_refl _, fun _ _ _ => rfl⟩
/-- What a drawing function answers: a text of at most m bytes, after at most k picks. -/
def DqPost (m k r b off n c p : Nat) (A : Option Addr) (w : World) (e : Ending) (w' : World) : Prop :=
  ∃ (x : List UInt8) (p' : Nat), e = .returned (.string ⟨x.toArray⟩) ∧ x.length ≤ m ∧ p ≤ p' ∧ p' ≤ p + k ∧ RdAt w' r b off n c A p' ∧ w.grownBy w' (some r)
/-- The texts of a list are short. -/
def Brief (m : Nat) (L : List (List UInt8)) : Prop := ∀ x ∈ L, x.length ≤ m
theorem Brief.snoc {m : Nat} {L : List (List UInt8)} {x : List UInt8} (h : Brief m L) (hx : x.length ≤ m) : Brief m (L ++ [x]) := fun y hy => by
  rcases List.mem_append.1 hy with h1 | h1
  · exact h y h1
  · rw [List.mem_singleton.1 h1]; exact hx
/-- A list of texts, newly made, is drawn from. -/
theorem of_new (L : List (List UInt8)) (m r b off n c p : Nat) (A : Option Addr) (w : World) (h : RdAt w r b off n c A p) (hl : 1 ≤ L.length) (hl2 : L.length ≤ 1000) (hp : p ≤ 1000000) (hs : Brief m L) (o : Obj) (ho : o = .cells (L.map strV).toArray 9) :
    Calls Try.prog 27 #[.pointer (some ⟨r, 0, none⟩), .slice (some ⟨w.heap.size, 0, none⟩) L.length L.length] (w.alloc o) (DqPost m 1 r b off n c p A w) := by
  subst ho
  refine (of_any L _ w.heap.size r b off n c p A _ (h.alloc _) ⟨by simp, .inr ⟨w.heap.size, L.length, _, rfl, Nat.le_refl _, heap_alloc_new w _, Nat.le_refl _, by unfold maxLen; omega, by simp, List.take_of_length_le (by simp)⟩⟩ h.lt hl hl2 hp).mono ?_
  rintro e w1 ⟨x, hx, rfl, hr1, hg1⟩
  exact ⟨x, p + 1, rfl, hs x hx, by omega, by omega, hr1, gr_trans (gr_new (gq_refl w r) _) hg1⟩

set_option maxRecDepth 100000 in
theorem l91Name_any (r b off n c p : Nat) (A : Option Addr) (w : World) (h : RdAt w r b off n c A p) (hp : p ≤ 1000000) :
    Calls Try.prog 55 #[.pointer (some ⟨r, 0, none⟩)] w (DqPost 2 1 r b off n c p A w) := by
  have HO := Lib.hid (of_new [[120], [121], [102], [122, 48], [122, 49], [98, 50]] 2 r b off n c p A w h (by decide) (by decide) hp (by unfold Brief; decide) _ rfl)
  clear h
  go_enter Try.func55, Try.ntmps55
  go_wp2_with fail
  refine HO.out.mono ?_
  rintro e w1 ⟨x, p', rfl, hx, h1, h2, hr1, hg1⟩
  have H := Lib.hid (And.intro hr1 hg1)
  clear hr1 hg1
  go_wp2_with fail
  go_ret
  exact ⟨x, p', rfl, hx, h1, h2, H.out⟩

set_option maxRecDepth 100000 in
set_option maxHeartbeats 2000000 in
theorem l91Known_any (r b off n c p : Nat) (A : Option Addr) (w : World) (h : RdAt w r b off n c A p) (hp : p ≤ 1000000) :
    Calls Try.prog 38 #[.pointer (some ⟨r, 0, none⟩)] w (DqPost 200 1 r b off n c p A w) := by
  have HO := Lib.hid (of_new [[40, 97, 112, 112, 32, 40, 108, 97, 109, 32, 120, 32, 40, 97, 112, 112, 32, 120, 32, 120, 41, 41, 32, 40, 108, 97, 109, 32, 121, 32, 121, 41, 41], [40, 97, 112, 112, 32, 40, 108, 97, 109, 32, 120, 32, 40, 97, 112, 112, 32, 120, 32, 120, 41, 41, 32, 40, 108, 97, 109, 32, 120, 32, 40, 97, 112, 112, 32, 120, 32, 120, 41, 41, 41], [40, 97, 112, 112, 32, 40, 97, 112, 112, 32, 40, 108, 97, 109, 32, 102, 32, 40, 108, 97, 109, 32, 120, 32, 40, 97, 112, 112, 32, 102, 32, 40, 97, 112, 112, 32, 102, 32, 120, 41, 41, 41, 41, 32, 40, 108, 97, 109, 32, 102, 32, 40, 108, 97, 109, 32, 120, 32, 40, 97, 112, 112, 32, 102, 32, 40, 97, 112, 112, 32, 102, 32, 120, 41, 41, 41, 41, 41, 32, 121, 41], [40, 97, 112, 112, 32, 40, 97, 112, 112, 32, 40, 108, 97, 109, 32, 120, 32, 40, 108, 97, 109, 32, 121, 32, 120, 41, 41, 32, 122, 48, 41, 32, 40, 97, 112, 112, 32, 40, 108, 97, 109, 32, 120, 32, 40, 97, 112, 112, 32, 120, 32, 120, 41, 41, 32, 40, 108, 97, 109, 32, 120, 32, 40, 97, 112, 112, 32, 120, 32, 120, 41, 41, 41, 41], [40, 108, 97, 109, 32, 120, 32, 40, 97, 112, 112, 32, 40, 108, 97, 109, 32, 121, 32, 40, 97, 112, 112, 32, 121, 32, 121, 41, 41, 32, 120, 41, 41], [40, 97, 112, 112, 32, 40, 108, 97, 109, 32, 102, 32, 40, 108, 97, 109, 32, 120, 32, 40, 97, 112, 112, 32, 102, 32, 40, 97, 112, 112, 32, 102, 32, 120, 41, 41, 41, 41, 32, 40, 108, 97, 109, 32, 121, 32, 40, 108, 97, 109, 32, 120, 32, 121, 41, 41, 41], [40, 108, 97, 109, 32, 120, 32, 40, 97, 112, 112, 32, 120, 32, 40, 97, 112, 112, 32, 40, 108, 97, 109, 32, 121, 32, 121, 41, 32, 120, 41, 41, 41], [40, 97, 112, 112, 32, 120, 32, 40, 97, 112, 112, 32, 40, 108, 97, 109, 32, 121, 32, 121, 41, 32, 40, 108, 97, 109, 32, 102, 32, 102, 41, 41, 41], [40, 108, 97, 109, 32, 102, 32, 40, 108, 97, 109, 32, 120, 32, 40, 97, 112, 112, 32, 102, 32, 40, 97, 112, 112, 32, 102, 32, 120, 41, 41, 41, 41], [40, 97, 112, 112, 32, 40, 108, 97, 109, 32, 120, 32, 40, 97, 112, 112, 32, 40, 97, 112, 112, 32, 120, 32, 121, 41, 32, 120, 41, 41, 32, 40, 108, 97, 109, 32, 122, 48, 32, 122, 48, 41, 41], [40, 97, 112, 112, 32, 40, 97, 112, 112, 32, 40, 108, 97, 109, 32, 102, 32, 40, 108, 97, 109, 32, 120, 32, 40, 97, 112, 112, 32, 102, 32, 40, 97, 112, 112, 32, 102, 32, 120, 41, 41, 41, 41, 32, 40, 108, 97, 109, 32, 120, 32, 40, 97, 112, 112, 32, 120, 32, 120, 41, 41, 41, 32, 40, 108, 97, 109, 32, 102, 32, 102, 41, 41]] 200 r b off n c p A w h (by decide) (by decide) hp (by unfold Brief; decide) _ rfl)
  clear h
  go_enter Try.func38, Try.ntmps38
  go_wp2_with fail
  refine HO.out.mono ?_
  rintro e w1 ⟨x, p', rfl, hx, h1, h2, hr1, hg1⟩
  have H := Lib.hid (And.intro hr1 hg1)
  clear hr1 hg1
  go_wp2_with fail
  go_ret
  exact ⟨x, p', rfl, hx, h1, h2, H.out⟩
/-- A lambda's, an application's, a redex's text. -/
def lamQ (x t : List UInt8) : List UInt8 := [40, 108, 97, 109, 32] ++ (x ++ ([32] ++ (t ++ [41])))
def appQ (s t : List UInt8) : List UInt8 := [40, 97, 112, 112, 32] ++ (s ++ ([32] ++ (t ++ [41])))
theorem lam_ba (x t : List UInt8) : ((((⟨#[40, 108, 97, 109, 32]⟩ : ByteArray) ++ ⟨x.toArray⟩) ++ ⟨#[32]⟩) ++ ⟨t.toArray⟩) ++ ⟨#[41]⟩ = ⟨(lamQ x t).toArray⟩ := by
  apply WideShapes.bytes_inj
  simp [lamQ, ByteArray.data_append]
theorem app_ba (s t : List UInt8) : ((((⟨#[40, 97, 112, 112, 32]⟩ : ByteArray) ++ ⟨s.toArray⟩) ++ ⟨#[32]⟩) ++ ⟨t.toArray⟩) ++ ⟨#[41]⟩ = ⟨(appQ s t).toArray⟩ := by
  apply WideShapes.bytes_inj
  simp [appQ, ByteArray.data_append]
theorem red_ba (x t u : List UInt8) : ((((((⟨#[40, 97, 112, 112, 32, 40, 108, 97, 109, 32]⟩ : ByteArray) ++ ⟨x.toArray⟩) ++ ⟨#[32]⟩) ++ ⟨t.toArray⟩) ++ ⟨#[41, 32]⟩) ++ ⟨u.toArray⟩) ++ ⟨#[41]⟩ = ⟨(appQ (lamQ x t) u).toArray⟩ := by
  apply WideShapes.bytes_inj
  simp [appQ, lamQ, ByteArray.data_append]
theorem lamQ_len (x t : List UInt8) : (lamQ x t).length = x.length + t.length + 7 := by simp [lamQ]; omega
theorem appQ_len (x t : List UInt8) : (appQ x t).length = x.length + t.length + 7 := by simp [appQ]; omega
def lenQ : Nat → Nat
  | 0 => 2
  | d + 1 => 2 * lenQ d + 20
def pkQ : Nat → Nat
  | 0 => 3
  | d + 1 => 2 * pkQ d + 3

set_option maxRecDepth 100000 in
set_option maxHeartbeats 4000000 in
theorem l91Term_zero (r b off n c p B g cc : Nat) (A : Option Addr) (L : List (List UInt8)) (w : World) (h : RdAt w r b off n c A p) (hl : SRow w B (.slice (some ⟨g, 0, none⟩) L.length cc) L) (hB : r < B) (hsh : Brief 2 L) (hL : L.length ≤ 100) (hp : p + 200 ≤ 1000000) :
    Calls Try.prog 39 #[.pointer (some ⟨r, 0, none⟩), .slice (some ⟨g, 0, none⟩) L.length cc, .int .i64 0] w (DqPost 2 3 r b off n c p A w) := by
  have HL := Lib.hid hl
  have HSH := Lib.hid hsh
  have HR := Lib.hid h
  clear h hl hsh
  by_cases hL0 : 0 < L.length
  · have HQ := Lib.hid (pick_any r b off n c p 5 A _ HR.out (by decide) (by decide) (by omega))
    go_enter Try.func39, Try.ntmps39
    go_wp2_with fail
    refine HQ.out.mono ?_
    rintro e wq ⟨zq, hzq, rfl, hrq, hgq⟩
    have hsq := hgq.size
    have HRQ := Lib.hid hrq
    have HGQ := Lib.hid (gr_trans (gq_refl w r) hgq)
    have HLQ := Lib.hid (HL.out.over HGQ.out hB)
    clear hrq hgq
    by_cases hzq0 : 0 < zq
    · have HS := Lib.hid (pick_any r b off n c _ L.length A _ HRQ.out (by omega) (by omega) (by omega))
      go_wp2_with fail
      refine HS.out.mono ?_
      rintro e ws ⟨zs, hzs, rfl, hrs, hgs⟩
      have HRS := Lib.hid hrs
      have HGS := Lib.hid (gr_trans HGQ.out hgs)
      obtain ⟨g1, hg1, _, _, _, hcell⟩ := (HL.out.over HGS.out hB).cell hzs
      simp only [Option.some.injEq, Addr.mk.injEq, and_true] at hg1
      obtain ⟨x, hx⟩ : ∃ x, L[zs] = x := ⟨_, rfl⟩
      have hxl : x.length ≤ 2 := HSH.out x (by rw [← hx]; exact List.getElem_mem _)
      rw [hx] at hcell
      have hz1 : (0 : Int) ≤ (zs : Int) := by omega
      have hz2 : (zs : Int) < (L.length : Int) := by omega
      clear hrs hgs hx
      subst hg1
      go_wp2_with fail
      go_ret
      exact ⟨x, _, rfl, by omega, by omega, by omega, HRS.out, HGS.out⟩
    · obtain rfl : zq = 0 := by omega
      have HNa := Lib.hid (l91Name_any r b off n c _ A _ HRQ.out (by omega))
      go_wp2_with fail
      refine HNa.out.mono ?_
      rintro e wna ⟨xa, pna, rfl, hxla, hpaa, hpba, hrna, hgna⟩
      have hsna := hgna.size
      have HRNa := Lib.hid hrna
      have HGNa := Lib.hid (gr_trans HGQ.out hgna)
      have hxsa : (⟨xa.toArray⟩ : ByteArray).size ≤ 1000 := by simp [ByteArray.size]; omega
      clear hrna hgna
      go_wp2_with fail
      go_ret
      exact ⟨xa, pna, rfl, by omega, by omega, by omega, HRNa.out, HGNa.out⟩
  · have HNa := Lib.hid (l91Name_any r b off n c p A _ HR.out (by omega))
    go_enter Try.func39, Try.ntmps39
    go_wp2_with fail
    refine HNa.out.mono ?_
    rintro e wna ⟨xa, pna, rfl, hxla, hpaa, hpba, hrna, hgna⟩
    have hsna := hgna.size
    have HRNa := Lib.hid hrna
    have HGNa := Lib.hid (gr_trans (gq_refl w r) hgna)
    have hxsa : (⟨xa.toArray⟩ : ByteArray).size ≤ 1000 := by simp [ByteArray.size]; omega
    clear hrna hgna
    go_wp2_with fail
    go_ret
    exact ⟨xa, pna, rfl, by omega, by omega, by omega, HRNa.out, HGNa.out⟩

set_option maxRecDepth 100000 in
set_option maxHeartbeats 8000000 in
theorem l91Term_succ (d D r b off n c p B g cc : Nat) (A : Option Addr) (L : List (List UInt8)) (w : World) (hD : D = d + 1) (hDs : D ≤ 50) (hm : lenQ d ≤ 400) (hk : pkQ d ≤ 100)
    (ih : ∀ p w B g cc L, RdAt w r b off n c A p → SRow w B (.slice (some ⟨g, 0, none⟩) L.length cc) L → r < B → Brief 2 L → L.length + d ≤ 100 → p + 200 * (d + 1) ≤ 1000000 → Calls Try.prog 39 #[.pointer (some ⟨r, 0, none⟩), .slice (some ⟨g, 0, none⟩) L.length cc, .int .i64 (d : Nat)] w (DqPost (lenQ d) (pkQ d) r b off n c p A w))
    (h : RdAt w r b off n c A p) (hl : SRow w B (.slice (some ⟨g, 0, none⟩) L.length cc) L) (hB : r < B) (hsh : Brief 2 L) (hL : L.length + D ≤ 100) (hp : p + 200 * (D + 1) ≤ 1000000) :
    Calls Try.prog 39 #[.pointer (some ⟨r, 0, none⟩), .slice (some ⟨g, 0, none⟩) L.length cc, .int .i64 (D : Nat)] w (DqPost (lenQ D) (pkQ D) r b off n c p A w) := by
  have hD0 : ¬ D = 0 := by omega
  have hD1 : IntKind.i64.wrap ((D : Int) - 1) = (d : Int) := by rw [show ((D : Int) - 1) = (d : Int) by omega]; exact IntWalk.i64_in _ (by omega)
  obtain ⟨M, hM⟩ : ∃ M, lenQ d = M := ⟨_, rfl⟩
  obtain ⟨K, hK⟩ : ∃ K, pkQ d = K := ⟨_, rfl⟩
  rw [show lenQ D = 2 * M + 20 by rw [hD, ← hM]; rfl, show pkQ D = 2 * K + 3 by rw [hD, ← hK]; rfl]
  rw [hM] at hm
  rw [hK] at hk
  rw [hM, hK] at ih
  have IH := Lib.hid ih
  have HP := Lib.hid (pick_any r b off n c p 6 A w h (by decide) (by decide) (by omega))
  have HL := Lib.hid hl
  have HSH := Lib.hid hsh
  have hp2 : p + 200 * (d + 2) ≤ 1000000 := by omega
  have hL2 : L.length + d + 1 ≤ 100 := by omega
  have hD2 : ¬ (D : Int) ≤ 0 := by omega
  clear h hl hsh ih hM hK hD hp hL
  go_enter Try.func39, Try.ntmps39
  go_wp2_with fail
  refine HP.out.mono ?_
  rintro e w1 ⟨z, hz, rfl, hr1, hg1⟩
  have hs1 := hg1.size
  have HR1 := Lib.hid hr1
  have HG1 := Lib.hid hg1
  clear hr1 hg1
  by_cases hz0 : z = 0
  · subst hz0
    by_cases hL0 : 0 < L.length
    · have HQ := Lib.hid (pick_any r b off n c (p + 1) 5 A _ HR1.out (by decide) (by decide) (by omega))
      go_wp2_with fail
      refine HQ.out.mono ?_
      rintro e wq ⟨zq, hzq, rfl, hrq, hgq⟩
      have hsq := hgq.size
      have HRQ := Lib.hid hrq
      have HGQ := Lib.hid (gr_trans HG1.out hgq)
      have HLQ := Lib.hid (HL.out.over HGQ.out hB)
      clear hrq hgq
      by_cases hzq0 : 0 < zq
      · have HS := Lib.hid (pick_any r b off n c _ L.length A _ HRQ.out (by omega) (by omega) (by omega))
        go_wp2_with fail
        refine HS.out.mono ?_
        rintro e ws ⟨zs, hzs, rfl, hrs, hgs⟩
        have HRS := Lib.hid hrs
        have HGS := Lib.hid (gr_trans HGQ.out hgs)
        obtain ⟨g1, hg1, _, _, _, hcell⟩ := (HL.out.over HGS.out hB).cell hzs
        simp only [Option.some.injEq, Addr.mk.injEq, and_true] at hg1
        obtain ⟨x, hx⟩ : ∃ x, L[zs] = x := ⟨_, rfl⟩
        have hxl : x.length ≤ 2 := HSH.out x (by rw [← hx]; exact List.getElem_mem _)
        rw [hx] at hcell
        have hz1 : (0 : Int) ≤ (zs : Int) := by omega
        have hz2 : (zs : Int) < (L.length : Int) := by omega
        clear hrs hgs hx
        subst hg1
        go_wp2_with fail
        go_ret
        exact ⟨x, _, rfl, by omega, by omega, by omega, HRS.out, HGS.out⟩
      · obtain rfl : zq = 0 := by omega
        have HNa := Lib.hid (l91Name_any r b off n c _ A _ HRQ.out (by omega))
        go_wp2_with fail
        refine HNa.out.mono ?_
        rintro e wna ⟨xa, pna, rfl, hxla, hpaa, hpba, hrna, hgna⟩
        have hsna := hgna.size
        have HRNa := Lib.hid hrna
        have HGNa := Lib.hid (gr_trans HGQ.out hgna)
        have hxsa : (⟨xa.toArray⟩ : ByteArray).size ≤ 1000 := by simp [ByteArray.size]; omega
        clear hrna hgna
        go_wp2_with fail
        go_ret
        exact ⟨xa, pna, rfl, by omega, by omega, by omega, HRNa.out, HGNa.out⟩
    · have HNa := Lib.hid (l91Name_any r b off n c (p + 1) A _ HR1.out (by omega))
      go_wp2_with fail
      refine HNa.out.mono ?_
      rintro e wna ⟨xa, pna, rfl, hxla, hpaa, hpba, hrna, hgna⟩
      have hsna := hgna.size
      have HRNa := Lib.hid hrna
      have HGNa := Lib.hid (gr_trans HG1.out hgna)
      have hxsa : (⟨xa.toArray⟩ : ByteArray).size ≤ 1000 := by simp [ByteArray.size]; omega
      clear hrna hgna
      go_wp2_with fail
      go_ret
      exact ⟨xa, pna, rfl, by omega, by omega, by omega, HRNa.out, HGNa.out⟩
  · have hzb : ((z : Int) == 0) = false := by simp; omega
    have HP2 := Lib.hid (pick_any r b off n c (p + 1) 7 A _ HR1.out (by decide) (by decide) (by omega))
    go_wp2_with fail
    refine HP2.out.mono ?_
    rintro e w2 ⟨z2, hz2, rfl, hr2, hg2⟩
    have hs2 := hg2.size
    have HR2 := Lib.hid hr2
    have HG2 := Lib.hid (gr_trans HG1.out hg2)
    clear hr2 hg2
    rcases (by omega : z2 = 0 ∨ z2 = 1 ∨ z2 = 2 ∨ z2 = 3 ∨ 4 ≤ z2) with rfl | rfl | rfl | rfl | hz4
    · have HNa := Lib.hid (l91Name_any r b off n c (p + 1 + 1) A _ HR2.out (by omega))
      go_wp2_with fail
      refine HNa.out.mono ?_
      rintro e wna ⟨xa, pna, rfl, hxla, hpaa, hpba, hrna, hgna⟩
      have hsna := hgna.size
      have HRNa := Lib.hid hrna
      have HGNa := Lib.hid (gr_trans HG2.out hgna)
      have hxsa : (⟨xa.toArray⟩ : ByteArray).size ≤ 1000 := by simp [ByteArray.size]; omega
      clear hrna hgna
      have hwl := l1With_any L xa B g cc wna (HL.out.over HGNa.out hB) (by omega)
      obtain ⟨L2, hLe⟩ : ∃ L2, L ++ [xa] = L2 := ⟨_, rfl⟩
      have HLL := Lib.hid (show L2.length = L.length + 1 by rw [← hLe]; simp)
      have HS2 := Lib.hid (HSH.out.snoc hxla)
      rw [hLe] at hwl HS2
      have HW := Lib.hid hwl
      clear hwl hLe
      go_wp2_with fail
      refine HW.out.mono ?_
      rintro e wl ⟨g2, c2, rfl, hrow, hbl⟩
      have hsl := hbl.size
      have HROW := Lib.hid hrow
      have HRL := Lib.hid (HRNa.out.below hbl)
      have HGL := Lib.hid (gr_below HGNa.out hbl)
      clear hrow hbl
      go_wp2_with fail
      have HIb := Lib.hid (IH.out pna _ wna.heap.size g2 c2 L2 HRL.out HROW.out HRNa.out.lt HS2.out (by have := HLL.out; omega) (by omega))
      refine HIb.out.mono ?_
      rintro e wib ⟨ub, pib, rfl, hulb, hiab, hibb, hrib, hgib⟩
      have hsib := hgib.size
      have HRIb := Lib.hid hrib
      have HGIb := Lib.hid (gr_trans HGL.out hgib)
      have husb : (⟨ub.toArray⟩ : ByteArray).size ≤ 1000 := by simp [ByteArray.size]; omega
      clear hrib hgib
      have HBA := Lib.hid (lam_ba xa ub)
      have hln := lamQ_len xa ub
      go_wp2_with fail
      go_ret
      exact ⟨lamQ xa ub, pib, by rw [← HBA.out]; rfl, by omega, by omega, by omega, HRIb.out, HGIb.out⟩
    · have HNa := Lib.hid (l91Name_any r b off n c (p + 1 + 1) A _ HR2.out (by omega))
      go_wp2_with fail
      refine HNa.out.mono ?_
      rintro e wna ⟨xa, pna, rfl, hxla, hpaa, hpba, hrna, hgna⟩
      have hsna := hgna.size
      have HRNa := Lib.hid hrna
      have HGNa := Lib.hid (gr_trans HG2.out hgna)
      have hxsa : (⟨xa.toArray⟩ : ByteArray).size ≤ 1000 := by simp [ByteArray.size]; omega
      clear hrna hgna
      have hwl := l1With_any L xa B g cc wna (HL.out.over HGNa.out hB) (by omega)
      obtain ⟨L2, hLe⟩ : ∃ L2, L ++ [xa] = L2 := ⟨_, rfl⟩
      have HLL := Lib.hid (show L2.length = L.length + 1 by rw [← hLe]; simp)
      have HS2 := Lib.hid (HSH.out.snoc hxla)
      rw [hLe] at hwl HS2
      have HW := Lib.hid hwl
      clear hwl hLe
      go_wp2_with fail
      refine HW.out.mono ?_
      rintro e wl ⟨g2, c2, rfl, hrow, hbl⟩
      have hsl := hbl.size
      have HROW := Lib.hid hrow
      have HRL := Lib.hid (HRNa.out.below hbl)
      have HGL := Lib.hid (gr_below HGNa.out hbl)
      clear hrow hbl
      go_wp2_with fail
      have HIb := Lib.hid (IH.out pna _ wna.heap.size g2 c2 L2 HRL.out HROW.out HRNa.out.lt HS2.out (by have := HLL.out; omega) (by omega))
      refine HIb.out.mono ?_
      rintro e wib ⟨ub, pib, rfl, hulb, hiab, hibb, hrib, hgib⟩
      have hsib := hgib.size
      have HRIb := Lib.hid hrib
      have HGIb := Lib.hid (gr_trans HGL.out hgib)
      have husb : (⟨ub.toArray⟩ : ByteArray).size ≤ 1000 := by simp [ByteArray.size]; omega
      clear hrib hgib
      have HBA := Lib.hid (lam_ba xa ub)
      have hln := lamQ_len xa ub
      go_wp2_with fail
      go_ret
      exact ⟨lamQ xa ub, pib, by rw [← HBA.out]; rfl, by omega, by omega, by omega, HRIb.out, HGIb.out⟩
    · go_wp2_with fail
      have HIb := Lib.hid (IH.out (p + 1 + 1) _ B g cc L HR2.out (HL.out.over HG2.out hB) hB HSH.out (by omega) (by omega))
      refine HIb.out.mono ?_
      rintro e wib ⟨ub, pib, rfl, hulb, hiab, hibb, hrib, hgib⟩
      have hsib := hgib.size
      have HRIb := Lib.hid hrib
      have HGIb := Lib.hid (gr_trans HG2.out hgib)
      have husb : (⟨ub.toArray⟩ : ByteArray).size ≤ 1000 := by simp [ByteArray.size]; omega
      clear hrib hgib
      go_wp2_with fail
      have HIc := Lib.hid (IH.out pib _ B g cc L HRIb.out (HL.out.over HGIb.out hB) hB HSH.out (by omega) (by omega))
      refine HIc.out.mono ?_
      rintro e wic ⟨uc, pic, rfl, hulc, hiac, hibc, hric, hgic⟩
      have hsic := hgic.size
      have HRIc := Lib.hid hric
      have HGIc := Lib.hid (gr_trans HGIb.out hgic)
      have husc : (⟨uc.toArray⟩ : ByteArray).size ≤ 1000 := by simp [ByteArray.size]; omega
      clear hric hgic
      have HBA := Lib.hid (app_ba ub uc)
      have hln := appQ_len ub uc
      go_wp2_with fail
      go_ret
      exact ⟨appQ ub uc, pic, by rw [← HBA.out]; rfl, by omega, by omega, by omega, HRIc.out, HGIc.out⟩
    · go_wp2_with fail
      have HIb := Lib.hid (IH.out (p + 1 + 1) _ B g cc L HR2.out (HL.out.over HG2.out hB) hB HSH.out (by omega) (by omega))
      refine HIb.out.mono ?_
      rintro e wib ⟨ub, pib, rfl, hulb, hiab, hibb, hrib, hgib⟩
      have hsib := hgib.size
      have HRIb := Lib.hid hrib
      have HGIb := Lib.hid (gr_trans HG2.out hgib)
      have husb : (⟨ub.toArray⟩ : ByteArray).size ≤ 1000 := by simp [ByteArray.size]; omega
      clear hrib hgib
      go_wp2_with fail
      have HIc := Lib.hid (IH.out pib _ B g cc L HRIb.out (HL.out.over HGIb.out hB) hB HSH.out (by omega) (by omega))
      refine HIc.out.mono ?_
      rintro e wic ⟨uc, pic, rfl, hulc, hiac, hibc, hric, hgic⟩
      have hsic := hgic.size
      have HRIc := Lib.hid hric
      have HGIc := Lib.hid (gr_trans HGIb.out hgic)
      have husc : (⟨uc.toArray⟩ : ByteArray).size ≤ 1000 := by simp [ByteArray.size]; omega
      clear hric hgic
      have HBA := Lib.hid (app_ba ub uc)
      have hln := appQ_len ub uc
      go_wp2_with fail
      go_ret
      exact ⟨appQ ub uc, pic, by rw [← HBA.out]; rfl, by omega, by omega, by omega, HRIc.out, HGIc.out⟩
    · have hb0 : ((z2 : Int) == 0) = false := by simp; omega
      have hb1 : ((z2 : Int) == 1) = false := by simp; omega
      have hb2 : ((z2 : Int) == 2) = false := by simp; omega
      have hb3 : ((z2 : Int) == 3) = false := by simp; omega
      have HNa := Lib.hid (l91Name_any r b off n c (p + 1 + 1) A _ HR2.out (by omega))
      go_wp2_with fail
      refine HNa.out.mono ?_
      rintro e wna ⟨xa, pna, rfl, hxla, hpaa, hpba, hrna, hgna⟩
      have hsna := hgna.size
      have HRNa := Lib.hid hrna
      have HGNa := Lib.hid (gr_trans HG2.out hgna)
      have hxsa : (⟨xa.toArray⟩ : ByteArray).size ≤ 1000 := by simp [ByteArray.size]; omega
      clear hrna hgna
      have hwl := l1With_any L xa B g cc wna (HL.out.over HGNa.out hB) (by omega)
      obtain ⟨L2, hLe⟩ : ∃ L2, L ++ [xa] = L2 := ⟨_, rfl⟩
      have HLL := Lib.hid (show L2.length = L.length + 1 by rw [← hLe]; simp)
      have HS2 := Lib.hid (HSH.out.snoc hxla)
      rw [hLe] at hwl HS2
      have HW := Lib.hid hwl
      clear hwl hLe
      go_wp2_with fail
      refine HW.out.mono ?_
      rintro e wl ⟨g2, c2, rfl, hrow, hbl⟩
      have hsl := hbl.size
      have HROW := Lib.hid hrow
      have HRL := Lib.hid (HRNa.out.below hbl)
      have HGL := Lib.hid (gr_below HGNa.out hbl)
      clear hrow hbl
      go_wp2_with fail
      have HIb := Lib.hid (IH.out pna _ wna.heap.size g2 c2 L2 HRL.out HROW.out HRNa.out.lt HS2.out (by have := HLL.out; omega) (by omega))
      refine HIb.out.mono ?_
      rintro e wib ⟨ub, pib, rfl, hulb, hiab, hibb, hrib, hgib⟩
      have hsib := hgib.size
      have HRIb := Lib.hid hrib
      have HGIb := Lib.hid (gr_trans HGL.out hgib)
      have husb : (⟨ub.toArray⟩ : ByteArray).size ≤ 1000 := by simp [ByteArray.size]; omega
      clear hrib hgib
      go_wp2_with fail
      have HIc := Lib.hid (IH.out pib _ B g cc L HRIb.out (HL.out.over HGIb.out hB) hB HSH.out (by omega) (by omega))
      refine HIc.out.mono ?_
      rintro e wic ⟨uc, pic, rfl, hulc, hiac, hibc, hric, hgic⟩
      have hsic := hgic.size
      have HRIc := Lib.hid hric
      have HGIc := Lib.hid (gr_trans HGIb.out hgic)
      have husc : (⟨uc.toArray⟩ : ByteArray).size ≤ 1000 := by simp [ByteArray.size]; omega
      clear hric hgic
      have HBA := Lib.hid (red_ba xa ub uc)
      have hln := appQ_len (lamQ xa ub) uc
      have hln2 := lamQ_len xa ub
      go_wp2_with fail
      go_ret
      exact ⟨appQ (lamQ xa ub) uc, pic, by rw [← HBA.out]; rfl, by omega, by omega, by omega, HRIc.out, HGIc.out⟩
end Go.Proofs.Ytljkmeloleeopaa
