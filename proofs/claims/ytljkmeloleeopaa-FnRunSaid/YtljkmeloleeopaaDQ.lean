/- The draws of a term, that is often a normal one. -/
import Derived.Test.YtljkmeloleeopaaDN
namespace Go.Proofs.Ytljkmeloleeopaa
set_option linter.unusedVariables false
open Go.RowKit

theorem l91Term_any (r b off n c : Nat) (A : Option Addr) : ∀ (d : Nat), d ≤ 4 → ∀ p w B g cc L, RdAt w r b off n c A p → SRow w B (.slice (some ⟨g, 0, none⟩) L.length cc) L → r < B → Brief 2 L → L.length + d ≤ 100 → p + 200 * (d + 1) ≤ 1000000 →
    Calls Try.prog 39 #[.pointer (some ⟨r, 0, none⟩), .slice (some ⟨g, 0, none⟩) L.length cc, .int .i64 (d : Nat)] w (DqPost (lenQ d) (pkQ d) r b off n c p A w) := by
  intro d
  induction d with
  | zero =>
    intro _ p w B g cc L h hl hB hs hL hp
    exact l91Term_zero r b off n c p B g cc A L w h hl hB hs (by omega) (by omega)
  | succ d ih =>
    intro hd p w B g cc L h hl hB hs hL hp
    have h1 : lenQ d ≤ 400 := by
      have : d = 0 ∨ d = 1 ∨ d = 2 ∨ d = 3 := by omega
      rcases this with rfl | rfl | rfl | rfl <;> decide
    have h2 : pkQ d ≤ 100 := by
      have : d = 0 ∨ d = 1 ∨ d = 2 ∨ d = 3 := by omega
      rcases this with rfl | rfl | rfl | rfl <;> decide
    exact l91Term_succ d (d + 1) r b off n c p B g cc A L w rfl (by omega) h1 h2 (fun p w B g cc L a1 a2 a3 a4 a5 a6 => ih (by omega) p w B g cc L a1 a2 a3 a4 a5 a6) h hl hB hs hL hp

/-- Terms of no names that are given. -/
theorem l91Term_bare (r b off n c d p : Nat) (A : Option Addr) (w w0 : World) (g0 : Nat) (hd : d ≤ 4) (h : RdAt w r b off n c A p) (hl : SRow w g0 (.slice (some ⟨g0, 0, none⟩) 0 0) []) (hB : r < g0) (hp : p ≤ 990000) :
    Calls Try.prog 39 #[.pointer (some ⟨r, 0, none⟩), .slice (some ⟨g0, 0, none⟩) 0 0, .int .i64 (d : Nat)] w (DqPost 400 200 r b off n c p A w) := by
  have h1 : lenQ d ≤ 400 ∧ pkQ d ≤ 200 := by
    have : d = 0 ∨ d = 1 ∨ d = 2 ∨ d = 3 ∨ d = 4 := by omega
    rcases this with rfl | rfl | rfl | rfl | rfl <;> decide
  refine (l91Term_any r b off n c A d hd p w g0 g0 0 [] h hl hB (fun x hx => by cases hx) (by simp; omega) (by omega)).mono ?_
  rintro e w1 ⟨x, p', he, hx, ha, hb, hr, hg⟩
  exact ⟨x, p', he, by omega, ha, by omega, hr, hg⟩
theorem none_row (w : World) : SRow (w.alloc (.cells #[] 9)) w.heap.size (.slice (some ⟨w.heap.size, 0, none⟩) 0 0) [] :=
  World.ownsRow_made (base := w.heap.size) (e := 9) (size := 1) w #[] 0 (Nat.le_refl _) (Nat.zero_le _) rfl

set_option maxRecDepth 100000 in
set_option maxHeartbeats 2000000 in
theorem l91Good_any (r b off n c p : Nat) (A : Option Addr) (w : World) (h : RdAt w r b off n c A p) (hp : p ≤ 980000) :
    Calls Try.prog 28 #[.pointer (some ⟨r, 0, none⟩)] w (DqPost 400 210 r b off n c p A w) := by
  have hlt := h.lt
  have HP := Lib.hid (pick_any r b off n c p 3 A w h (by decide) (by decide) (by omega))
  clear h
  go_enter Try.func28, Try.ntmps28
  go_wp2_with fail
  refine HP.out.mono ?_
  rintro e w1 ⟨z, hz, rfl, hr1, hg1⟩
  have hs1 := hg1.size
  have HR1 := Lib.hid hr1
  have HG1 := Lib.hid hg1
  clear hr1 hg1
  rcases (by omega : z = 0 ∨ z = 1 ∨ z = 2) with rfl | rfl | rfl
  · have HK := Lib.hid (l91Known_any r b off n c (p + 1) A _ HR1.out (by omega))
    go_wp2_with fail
    refine HK.out.mono ?_
    rintro e w2 ⟨x, q, rfl, hx, ha, hb, hr2, hg2⟩
    have H := Lib.hid (And.intro hr2 (gr_trans HG1.out hg2))
    clear hr2 hg2
    go_wp2_with fail
    go_ret
    exact ⟨x, q, rfl, by omega, by omega, by omega, H.out⟩
  · have HT := Lib.hid (l91Term_bare r b off n c 3 (p + 1) A _ w1 w1.heap.size (by decide) (HR1.out.alloc (.cells #[] 9)) (none_row w1) (by omega) (by omega))
    go_wp2_with fail
    refine HT.out.mono ?_
    rintro e w2 ⟨x, q, rfl, hx, ha, hb, hr2, hg2⟩
    have H := Lib.hid (And.intro hr2 (gr_trans (gr_new HG1.out (.cells #[] 9)) hg2))
    clear hr2 hg2
    go_wp2_with fail
    go_ret
    exact ⟨x, q, rfl, by omega, by omega, by omega, H.out⟩
  · have HP2 := Lib.hid (pick_any r b off n c (p + 1) 3 A _ (HR1.out.alloc (.cells #[] 9)) (by decide) (by decide) (by omega))
    have HN := Lib.hid (none_row w1)
    have HG1' := Lib.hid (gr_new HG1.out (.cells #[] 9))
    go_wp2_with fail
    refine HP2.out.mono ?_
    rintro e w2 ⟨z2, hz2, rfl, hr2, hg2⟩
    obtain ⟨d2, hd2⟩ : ∃ d2, 2 + z2 = d2 := ⟨_, rfl⟩
    have hw2 : IntKind.i64.wrap (2 + (z2 : Int)) = (d2 : Int) := by rw [show (2 + (z2 : Int)) = (d2 : Int) by omega]; exact IntWalk.i64_in _ (by omega)
    have HT := Lib.hid (l91Term_bare r b off n c d2 (p + 1 + 1) A w2 w1 w1.heap.size (by omega) hr2 (HN.out.over hg2 (by omega)) (by omega) (by omega))
    have HG2 := Lib.hid (gr_trans HG1'.out hg2)
    clear hr2 hg2 hd2
    go_wp2_with fail
    refine HT.out.mono ?_
    rintro e w3 ⟨x, q, rfl, hx, ha, hb, hr3, hg3⟩
    have H := Lib.hid (And.intro hr3 (gr_trans HG2.out hg3))
    clear hr3 hg3
    go_wp2_with fail
    go_ret
    exact ⟨x, q, rfl, by omega, by omega, by omega, H.out⟩

set_option maxRecDepth 100000 in
set_option maxHeartbeats 2000000 in
theorem l91Odd_any (r b off n c p : Nat) (A : Option Addr) (w : World) (h : RdAt w r b off n c A p) (hp : p ≤ 970000) :
    Calls Try.prog 19 #[.pointer (some ⟨r, 0, none⟩)] w (DqPost 400 220 r b off n c p A w) := by
  have hlt := h.lt
  have HP := Lib.hid (pick_any r b off n c p 16 A w h (by decide) (by decide) (by omega))
  clear h
  go_enter Try.func19, Try.ntmps19
  go_wp2_with fail
  refine HP.out.mono ?_
  rintro e w1 ⟨z, hz, rfl, hr1, hg1⟩
  have hs1 := hg1.size
  have HR1 := Lib.hid hr1
  have HG1 := Lib.hid hg1
  clear hr1 hg1
  by_cases hz0 : z = 0
  · subst hz0
    have HK := Lib.hid (of_new [[], [40, 108, 97, 109, 32, 120, 41], [40, 97, 112, 112, 32, 120, 41], [120, 121], [40, 108, 97, 109, 32, 40, 97, 112, 112, 32, 120, 32, 120, 41, 32, 120, 41], [120, 32], [40, 97, 112, 112, 32, 32, 120, 32, 121, 41], [49], [40, 108, 97, 109, 32, 120, 32, 121, 32, 122, 41]] 20 r b off n c (p + 1) A w1 HR1.out (by decide) (by decide) (by omega) (by unfold Brief; decide) _ rfl)
    go_wp2_with fail
    refine HK.out.mono ?_
    rintro e w2 ⟨x, q, rfl, hx, ha, hb, hr2, hg2⟩
    have H := Lib.hid (And.intro hr2 (gr_trans HG1.out hg2))
    clear hr2 hg2
    go_wp2_with fail
    go_ret
    exact ⟨x, q, rfl, by omega, by omega, by omega, H.out⟩
  · have hzb : ((z : Int) == 0) = false := by simp; omega
    have HK := Lib.hid (l91Good_any r b off n c (p + 1) A w1 HR1.out (by omega))
    go_wp2_with fail
    refine HK.out.mono ?_
    rintro e w2 ⟨x, q, rfl, hx, ha, hb, hr2, hg2⟩
    have H := Lib.hid (And.intro hr2 (gr_trans HG1.out hg2))
    clear hr2 hg2
    go_wp2_with fail
    go_ret
    exact ⟨x, q, rfl, by omega, by omega, by omega, H.out⟩
end Go.Proofs.Ytljkmeloleeopaa
