/- Texts that are drawn. -/
import Derived.Test.YtmkjkoelpngicaaDK
import Derived.Test.YtmkjkoelpngicaaMI
namespace Go.Proofs.Ytmkjkoelpngicaa
set_option linter.unusedVariables false
open Go.RowKit

theorem CodeIn.keep {w w' : World} {r b off n : Nat} {A : Option Addr} (h : CodeIn w r b off n A) (hk : ∀ q, q < r → w'.heap[q]? = w.heap[q]?) : CodeIn w' r b off n A := by
  obtain ⟨h1, h2, h3⟩ := h
  refine ⟨h1, h2, fun j hj => ?_⟩
  obtain ⟨z, hz, hc⟩ := h3 j hj
  exact ⟨z, hz, by rw [World.cell?_of_block (w := w) (hk b (h2 (by omega)).2)]; exact hc⟩
theorem RdAt.lt {w : World} {r b off n c p : Nat} {A : Option Addr} (h : RdAt w r b off n c A p) : r < w.heap.size := h.1.lt
theorem RdAt.below {w w' : World} {r b off n c p : Nat} {A : Option Addr} (h : RdAt w r b off n c A p) (hb : Below w.heap.size w w') : RdAt w' r b off n c A p :=
  ⟨h.1.below hb h.lt, h.2.keep fun q hq => hb.block q (by have := h.lt; omega)⟩
theorem RdAt.grown {w w' : World} {r b off n c p : Nat} {A : Option Addr} {row : Option Nat} (h : RdAt w r b off n c A p) (hg : w.grownBy w' row) (hr : ∀ k, row = some k → r < k) : RdAt w' r b off n c A p :=
  ⟨h.1.grown hg (fun e => by have := hr r e.symm; omega), h.2.keep fun q hq => by
    obtain ⟨_, _, _, _, hk⟩ := hg
    exact hk q (by have := h.lt; omega) (fun e => by have := hr q e.symm; omega)⟩
theorem RdAt.alloc {w : World} {r b off n c p : Nat} {A : Option Addr} (h : RdAt w r b off n c A p) (o : Obj) : RdAt (w.alloc o) r b off n c A p :=
  h.below ((Below.refl _ _).alloc (Nat.le_refl _) _)
theorem gr_below {w w' w2 : World} {r : Nat} (h : w.grownBy w' (some r)) (hb : Below w'.heap.size w' w2) : w.grownBy w2 (some r) := by
  obtain ⟨a, b, c, d, e⟩ := h
  have := hb.size
  exact ⟨hb.os.trans a, hb.tape.trans b, hb.output.trans c, by omega, fun k hk hr => (hb.block k (by omega)).trans (e k hk hr)⟩
/-- What the reader leaves: its own block alone is changed. -/
theorem gr_new {w w' : World} {r : Nat} (h : w.grownBy w' (some r)) (o : Obj) : w.grownBy (w'.alloc o) (some r) := gr_below h ((Below.refl _ _).alloc (Nat.le_refl _) o)
theorem gr_row {w w' w2 : World} {r : Nat} {row : Option Nat} (h : w.grownBy w' (some r)) (hg : w'.grownBy w2 row) (hr : ∀ k, row = some k → w.heap.size ≤ k) : w.grownBy w2 (some r) := by
  obtain ⟨a, b, c, d, e⟩ := h
  obtain ⟨a', b', c', d', e'⟩ := hg
  exact ⟨a'.trans a, b'.trans b, c'.trans c, by omega, fun k hk hkr => (e' k (by omega) (fun e => by have := hr k e.symm; omega)).trans (e k hk hkr)⟩
theorem gr_trans {w w' w2 : World} {r : Nat} (h : w.grownBy w' (some r)) (hg : w'.grownBy w2 (some r)) : w.grownBy w2 (some r) := by
  obtain ⟨a, b, c, d, e⟩ := h
  obtain ⟨a', b', c', d', e'⟩ := hg
  exact ⟨a'.trans a, b'.trans b, c'.trans c, by omega, fun k hk hkr => (e' k (by omega) hkr).trans (e k hk hkr)⟩
theorem SRow.over {w w' : World} {B r : Nat} {v : Value} {l : List (List UInt8)} (h : SRow w B v l) (hg : w.grownBy w' (some r)) (hr : r < B) : SRow w' B v l :=
  h.kept hg (by
    cases e : v.ownBlock with
    | none => exact .inl rfl
    | some k => exact .inr (by have := (h.lt k e).1; intro e2; injection e2 with e2; omega))

set_option maxRecDepth 100000 in
theorem of_any (l : List (List UInt8)) (v : Value) (B r b off n c p : Nat) (A : Option Addr) (w : World) (h : RdAt w r b off n c A p) (hv : SRow w B v l) (hB : r < B) (hl : 1 ≤ l.length) (hl2 : l.length ≤ 1000) (hp : p ≤ 1000000) :
    Calls Try.prog 81 #[.pointer (some ⟨r, 0, none⟩), v] w fun e w' => ∃ x, x ∈ l ∧ e = .returned (.string ⟨x.toArray⟩) ∧ RdAt w' r b off n c A (p + 1) ∧ w.grownBy w' (some r) := by
  obtain ⟨A1, c1, rfl⟩ := own_shape hv
  have HV := Lib.hid hv
  have HP := Lib.hid (pick_any r b off n c p l.length A w h hl hl2 hp)
  clear h hv
  go_enter Try.func81, Try.ntmps81
  go_wp2_with fail
  refine HP.out.mono ?_
  rintro e w1 ⟨z, hz, rfl, hr1, hg1⟩
  have HV1 := Lib.hid (HV.out.over hg1 hB)
  obtain ⟨g, rfl, _, _, _, hcell⟩ := HV1.out.cell hz
  have HR1 := Lib.hid hr1
  have HG1 := Lib.hid hg1
  have hz1 : (0 : Int) ≤ (z : Int) := by omega
  have hz2 : (z : Int) < (l.length : Int) := by omega
  obtain ⟨x, hx⟩ : ∃ x, l[z] = x := ⟨_, rfl⟩
  have HX := Lib.hid (show x ∈ l by rw [← hx]; exact List.getElem_mem _)
  rw [hx] at hcell
  clear hr1 hg1 hx
  go_wp2_with fail
  go_ret
  exact ⟨x, HX.out, rfl, HR1.out, HG1.out⟩

def lenD : Nat → Nat
  | 0 => 1
  | d + 1 => 3 * lenD d + 13
def pkD : Nat → Nat
  | 0 => 1
  | d + 1 => 2 + 3 * pkD d

theorem gr_refl (w : World) (r : Nat) : w.grownBy w (some r) := ⟨rfl, rfl, rfl, Nat.le_refl _, fun _ _ _ => rfl⟩
theorem abc_row (w : World) : SRow (w.alloc (.cells #[.string ⟨#[97]⟩, .string ⟨#[98]⟩, .string ⟨#[110]⟩, .string ⟨#[108]⟩, .string ⟨#[110]⟩] 9)) w.heap.size (.slice (some ⟨w.heap.size, 0, none⟩) 5 5) [[97], [98], [110], [108], [110]] :=
  ⟨rfl, .inr ⟨w.heap.size, 5, _, rfl, Nat.le_refl _, heap_alloc_new w _, by decide, by decide, rfl, rfl⟩⟩
theorem lenD_mono (d : Nat) : 1 ≤ lenD d := by cases d <;> simp [lenD]

/-- What a drawing function answers: a text of at most m bytes, after at most k picks. -/
def DrPost (m k r b off n c p : Nat) (A : Option Addr) (w : World) (e : Ending) (w' : World) : Prop :=
  ∃ (x : List UInt8) (p' : Nat), e = .returned (.string ⟨x.toArray⟩) ∧ x.length ≤ m ∧ p ≤ p' ∧ p' ≤ p + k ∧ RdAt w' r b off n c A p' ∧ w.grownBy w' (some r)

set_option maxRecDepth 100000 in
set_option maxHeartbeats 2000000 in
theorem l91Type_zero (r b off n c p : Nat) (A : Option Addr) (w : World) (h : RdAt w r b off n c A p) (hp : p ≤ 1000000) :
    Calls Try.prog 63 #[.pointer (some ⟨r, 0, none⟩), .int .i64 0] w (DrPost 1 1 r b off n c p A w) := by
  have hlt := h.lt
  have HO := Lib.hid (of_any _ _ w.heap.size r b off n c p A _ (h.alloc (.cells #[.string ⟨#[97]⟩, .string ⟨#[98]⟩, .string ⟨#[110]⟩, .string ⟨#[108]⟩, .string ⟨#[110]⟩] 9)) (abc_row w) hlt (by decide) (by decide) hp)
  clear h
  go_enter Try.func63, Try.ntmps63
  go_wp2_with fail
  refine HO.out.mono ?_
  rintro e w1 ⟨x, hx, rfl, hr1, hg1⟩
  have hxl : x.length ≤ 1 := (by decide : ∀ y ∈ ([[97], [98], [110], [108], [110]] : List (List UInt8)), y.length ≤ 1) x hx
  have HR1 := Lib.hid hr1
  have HG1 := Lib.hid (gr_trans (gr_new (gr_refl w r) _) hg1)
  clear hr1 hg1 hx
  go_wp2_with fail
  go_ret
  exact ⟨x, p + 1, rfl, hxl, by omega, by omega, HR1.out, HG1.out⟩

/-- The texts of a list are short. -/
def Short (m : Nat) (L : List (List UInt8)) : Prop := ∀ x ∈ L, x.length ≤ m
theorem Short.snoc {m : Nat} {L : List (List UInt8)} {x : List UInt8} (h : Short m L) (hx : x.length ≤ m) : Short m (L ++ [x]) := fun y hy => by
  rcases List.mem_append.1 hy with h1 | h1
  · exact h y h1
  · rw [List.mem_singleton.1 h1]; exact hx
theorem fn_ba (s u : List UInt8) : ((((⟨#[40, 62, 32]⟩ : ByteArray) ++ ⟨s.toArray⟩) ++ ⟨#[32]⟩) ++ ⟨u.toArray⟩) ++ ⟨#[41]⟩ = ⟨(mkFn s u).toArray⟩ := by
  apply WideShapes.bytes_inj
  simp [mkFn, ByteArray.data_append]

set_option maxRecDepth 100000 in
set_option maxHeartbeats 4000000 in
theorem l91Type_succ (P d D r b off n c p : Nat) (A : Option Addr) (w : World) (hP : P ≤ 1000000) (hD : D = d + 1) (hDs : D ≤ 100) (hm : lenD d ≤ 300) (hk : pkD d ≤ 1000)
    (ih : ∀ p w, RdAt w r b off n c A p → p ≤ P → Calls Try.prog 63 #[.pointer (some ⟨r, 0, none⟩), .int .i64 (d : Nat)] w (DrPost (lenD d) (pkD d) r b off n c p A w))
    (h : RdAt w r b off n c A p) (hp : p + 5000 ≤ P) :
    Calls Try.prog 63 #[.pointer (some ⟨r, 0, none⟩), .int .i64 (D : Nat)] w (DrPost (lenD D) (pkD D) r b off n c p A w) := by
  obtain ⟨i0, hinf, hz0, hzs, hzb⟩ := info_parts Try.infoS'
  have hlt := h.lt
  have hD0 : ((D : Int) == 0) = false := by simp; omega
  have hD1 : IntKind.i64.wrap ((D : Int) - 1) = (d : Int) := by rw [show ((D : Int) - 1) = (d : Int) by omega]; exact IntWalk.i64_in _ (by omega)
  obtain ⟨M, hM⟩ : ∃ M, lenD d = M := ⟨_, rfl⟩
  obtain ⟨K, hK⟩ : ∃ K, pkD d = K := ⟨_, rfl⟩
  rw [show lenD D = 3 * M + 13 by rw [hD, ← hM]; rfl, show pkD D = 2 + 3 * K by rw [hD, ← hK]; rfl]
  rw [hM] at hm
  rw [hK] at hk
  rw [hM, hK] at ih
  have hM1 : 1 ≤ M := by rw [← hM]; exact lenD_mono d
  have IH := Lib.hid ih
  have HP := Lib.hid (pick_any r b off n c p 3 A w h (by decide) (by decide) (by omega))
  clear h ih hM hK hD
  go_enter Try.func63, Try.ntmps63
  go_wp2_with fail
  refine HP.out.mono ?_
  rintro e w1 ⟨z, hz, rfl, hr1, hg1⟩
  have HR1 := Lib.hid hr1
  have HG1 := Lib.hid hg1
  have hz1 := hg1.size
  clear hr1 hg1
  by_cases hz0' : z = 0
  · subst hz0'
    have HO := Lib.hid (of_any _ _ w1.heap.size r b off n c (p + 1) A _ (HR1.out.alloc (.cells #[.string ⟨#[97]⟩, .string ⟨#[98]⟩, .string ⟨#[110]⟩, .string ⟨#[108]⟩, .string ⟨#[110]⟩] 9)) (abc_row w1) (by omega) (by decide) (by decide) (by omega))
    go_wp2_with fail
    refine HO.out.mono ?_
    rintro e w2 ⟨x, hx, rfl, hr2, hg2⟩
    have hxl : x.length ≤ 1 := (by decide : ∀ y ∈ ([[97], [98], [110], [108], [110]] : List (List UInt8)), y.length ≤ 1) x hx
    have HR2 := Lib.hid hr2
    have HG2 := Lib.hid (gr_trans (gr_new HG1.out _) hg2)
    clear hr2 hg2 hx
    go_wp2_with fail
    go_ret
    exact ⟨x, p + 1 + 1, rfl, by omega, by omega, by omega, HR2.out, HG2.out⟩
  · have hzb' : ((z : Int) == 0) = false := by simp; omega
    have HP2 := Lib.hid (pick_any r b off n c (p + 1) 3 A _ (HR1.out.alloc (.cells #[] 9)) (by decide) (by decide) (by omega))
    go_wp2_with fail
    refine HP2.out.mono ?_
    rintro e w2 ⟨z2, hz2, rfl, hr2, hg2⟩
    have hs2 := hg2.size
    simp at hs2
    have HR2 := Lib.hid hr2
    have HG2 := Lib.hid (gr_trans (gr_new HG1.out (.cells #[] 9)) hg2)
    have HL2 : Hid (SRow w2 w1.heap.size (.slice (some ⟨w1.heap.size, 0, none⟩) 0 0) []) := Lib.hid ((show SRow (w1.alloc (.cells #[] 9)) w1.heap.size (.slice (some ⟨w1.heap.size, 0, none⟩) 0 0) [] from World.ownsRow_made (base := w1.heap.size) (e := 9) (size := 1) w1 #[] 0 (Nat.le_refl _) (Nat.zero_le _) rfl).over hg2 (by omega))
    clear hr2 hg2
    go_wp2_with fail
    go_loopw [5, 7] (fun lv i wr => ∃ (j g0 c0 q : Nat) (L : List (List UInt8)), j ≤ z2 ∧ L.length = j ∧ i = .int .i64 (j : Nat) ∧ lv = .slice (some ⟨g0, 0, none⟩) j c0 ∧ Hid (SRow wr w1.heap.size (.slice (some ⟨g0, 0, none⟩) j c0) L) ∧ Hid (Short M L) ∧ RdAt wr r b off n c A q ∧ p + 2 ≤ q ∧ q ≤ p + 2 + j * K ∧ Hid (w.grownBy wr (some r)) ∧ w1.heap.size ≤ wr.heap.size) (fun _ i _ => z2 - (intOf i).toNat)
    case atStart => exact ⟨0, w1.heap.size, 0, p + 2, [], by omega, rfl, rfl, rfl, HL2, Lib.hid (fun x hx => by cases hx), HR2.out, by omega, by omega, HG2, by omega⟩
    case round =>
      obtain ⟨j, g0, c0, q, L, hj, hLl, rfl, rfl, HL, HSH, hrd, hq1, hq2, HG, hsz⟩ := hrel
      have HRD := Lib.hid hrd
      have hjK : j * K ≤ 2 * K := Nat.mul_le_mul_right _ (by omega)
      clear hrd
      by_cases hjz : j < z2
      · have HC := Lib.hid (IH.out q _ HRD.out (by omega))
        go_wp2_with fail
        refine HC.out.mono ?_
        rintro e w3 ⟨x, q3, rfl, hxM, hq3, hq4, hr3, hg3⟩
        have hs3 := hg3.size
        have HR3 := Lib.hid hr3
        have HL3 := Lib.hid (HL.out.over hg3 (by omega))
        have HG3 := Lib.hid (gr_trans HG.out hg3)
        clear hr3 hg3
        go_wp2_with (first
          | (at_builtin
             refine wpList_append_own_at _ rfl (.tmp 26) (.tmp 31) 23 rfl w1.heap.size 9 i0 (.string ⟨#[]⟩) 1 16 Try.underlying23 hinf hz0 hzs hzb rfl (by decide) (.slice (some ⟨g0, 0, none⟩) j c0) j (L.map strV) rfl (by have h := HL3.out.alloc (.cells #[.string ⟨x.toArray⟩] 9); rw [hLl] at h; exact h) ⟨w3.heap.size, 0, none⟩ 1 1 [.string ⟨x.toArray⟩] rfl rfl (cell_one_new _ _ _) ?_ ?_ ?_ ?_ ?_
             · intro u hu
               simp at hu
               subst hu
               rfl
             · unfold maxLen; omega
             · omega
             · simp; omega
             intro v4 w4 hown4 hg4 _ hat4)
          | fail)
        have hsh : ∃ g6 c6, v4 = .slice (some ⟨g6, 0, none⟩) (j + 1) c6 := by
          rcases hown4.2 with ⟨_, h⟩ | ⟨g6, c6, cur, hv, _⟩
          · omega
          · exact ⟨g6, c6, hv⟩
        obtain ⟨g6, c6, hv4⟩ := hsh
        subst hv4
        have hlo := (HL3.out.lt g0 rfl).1
        have hs4 := hg4.size
        simp at hs4
        go_roundw
        case rel =>
          refine ⟨j + 1, g6, c6, q3, L ++ [x], by omega, by simp [hLl], by go_num, rfl, Lib.hid ?_, Lib.hid (HSH.out.snoc hxM), (HR3.out.alloc _).grown hg4 (fun k e => by simp [Value.ownBlock] at e; omega), by omega, by rw [Nat.add_mul, Nat.one_mul]; omega, Lib.hid (gr_row (gr_new HG3.out _) hg4 (fun k e => by simp [Value.ownBlock] at e; omega)), by omega⟩
          have e : (L ++ [x]).length = j + 1 := by simp [hLl]
          unfold SRow
          rw [e, List.map_append]
          exact hown4
        case measure => simp [intOf]; omega
      · have HMK := Lib.hid (l3Make_any L _ _ _ HL.out (by omega) (fun x hx => by have := HSH.out x hx; omega))
        have hbl : (mkBag (srt L)).length ≤ 3 + 2 * (M + 1) := by
          have h1 := bag_long (srt L) M (fun x hx => HSH.out x ((srt_perm L).mem_iff.1 hx))
          have h2 : (srt L).length * (M + 1) ≤ 2 * (M + 1) := Nat.mul_le_mul_right _ (by rw [(srt_perm L).length_eq]; omega)
          omega
        generalize mkBag (srt L) = T at HMK hbl
        go_wp2_with fail
        refine HMK.out.mono ?_
        rintro e w3 ⟨rfl, hb3⟩
        have HC := Lib.hid (IH.out q _ (HRD.out.below hb3) (by omega))
        have HG3 := Lib.hid (gr_below HG.out hb3)
        clear hb3
        have hTs : (⟨T.toArray⟩ : ByteArray).size ≤ 1000 := by simp [ByteArray.size]; omega
        go_wp2_with fail
        refine HC.out.mono ?_
        rintro e w4 ⟨x, q4, rfl, hxM, hq3, hq4, hr4, hg4⟩
        have HR4 := Lib.hid hr4
        have HG4 := Lib.hid (gr_trans HG3.out hg4)
        have hxs : (⟨x.toArray⟩ : ByteArray).size ≤ 1000 := by simp [ByteArray.size]; omega
        have HFB := Lib.hid (fn_ba T x)
        clear hr4 hg4
        go_wp2_with fail
        go_ret
        exact ⟨mkFn T x, q4, by rw [← HFB.out]; rfl, by simp [mkFn]; omega, by omega, by omega, HR4.out, HG4.out⟩

theorem l91Type_any (r b off n c : Nat) (A : Option Addr) : ∀ (d : Nat), d ≤ 3 → ∀ p w, RdAt w r b off n c A p → p ≤ 930000 - 5000 * d → Calls Try.prog 63 #[.pointer (some ⟨r, 0, none⟩), .int .i64 (d : Nat)] w (DrPost (lenD d) (pkD d) r b off n c p A w) := by
  intro d
  induction d with
  | zero =>
    intro _ p w h hp
    exact l91Type_zero r b off n c p A w h (by omega)
  | succ d ih =>
    intro hd p w h hp
    have h1 : lenD d ≤ 300 := by
      have : d = 0 ∨ d = 1 ∨ d = 2 := by omega
      rcases this with rfl | rfl | rfl <;> decide
    have h2 : pkD d ≤ 1000 := by
      have : d = 0 ∨ d = 1 ∨ d = 2 := by omega
      rcases this with rfl | rfl | rfl <;> decide
    exact l91Type_succ (930000 - 5000 * d) d (d + 1) r b off n c p A w (by omega) rfl (by omega) h1 h2 (fun p w h hp => ih (by omega) p w h hp) h (by omega)

set_option maxRecDepth 100000 in
set_option maxHeartbeats 2000000 in
theorem l91Types_any (r b off n c p : Nat) (A : Option Addr) (w : World) (h : RdAt w r b off n c A p) (hp : p ≤ 800000) :
    Calls Try.prog 64 #[.pointer (some ⟨r, 0, none⟩)] w (DrPost 200 60 r b off n c p A w) := by
  have hlt := h.lt
  have HP := Lib.hid (pick_any r b off n c p 16 A w h (by decide) (by decide) (by omega))
  have IH := Lib.hid (l91Type_any r b off n c A 3 (by decide))
  clear h
  go_enter Try.func64, Try.ntmps64
  go_wp2_with fail
  refine HP.out.mono ?_
  rintro e w1 ⟨z, hz, rfl, hr1, hg1⟩
  have HR1 := Lib.hid hr1
  have HG1 := Lib.hid hg1
  have hz1 := hg1.size
  clear hr1 hg1
  by_cases hz0 : z = 0
  · subst hz0
    have HO := Lib.hid (of_any [[], [97, 98], [40, 62, 32, 97, 32, 98, 41], [40, 62, 32, 40, 109, 32, 98, 32, 97, 41, 32, 97, 41], [40, 109, 41], [40, 62, 32, 40, 109, 41, 32, 41], [65]] _ w1.heap.size r b off n c (p + 1) A _ (HR1.out.alloc (.cells #[.string ⟨#[]⟩, .string ⟨#[97, 98]⟩, .string ⟨#[40, 62, 32, 97, 32, 98, 41]⟩, .string ⟨#[40, 62, 32, 40, 109, 32, 98, 32, 97, 41, 32, 97, 41]⟩, .string ⟨#[40, 109, 41]⟩, .string ⟨#[40, 62, 32, 40, 109, 41, 32, 41]⟩, .string ⟨#[65]⟩] 9)) ⟨rfl, .inr ⟨w1.heap.size, 7, _, rfl, Nat.le_refl _, heap_alloc_new w1 _, by decide, by decide, rfl, rfl⟩⟩ (by omega) (by decide) (by decide) (by omega))
    go_wp2_with fail
    refine HO.out.mono ?_
    rintro e w2 ⟨x, hx, rfl, hr2, hg2⟩
    have hxl : x.length ≤ 200 := (by decide : ∀ y ∈ ([[], [97, 98], [40, 62, 32, 97, 32, 98, 41], [40, 62, 32, 40, 109, 32, 98, 32, 97, 41, 32, 97, 41], [40, 109, 41], [40, 62, 32, 40, 109, 41, 32, 41], [65]] : List (List UInt8)), y.length ≤ 200) x hx
    have HR2 := Lib.hid hr2
    have HG2 := Lib.hid (gr_trans (gr_new HG1.out _) hg2)
    clear hr2 hg2 hx
    go_wp2_with fail
    go_ret
    exact ⟨x, p + 1 + 1, rfl, by omega, by omega, by omega, HR2.out, HG2.out⟩
  · have hzb' : ((z : Int) == 0) = false := by simp; omega
    have HC := Lib.hid (IH.out (p + 1) _ HR1.out (by omega))
    go_wp2_with fail
    refine HC.out.mono ?_
    rintro e w4 ⟨x, q4, rfl, hxM, hq3, hq4, hr4, hg4⟩
    have hx1 : x.length ≤ 200 := Nat.le_trans hxM (by decide)
    have hq5 : q4 ≤ p + 60 := Nat.le_trans hq4 (by show p + 1 + 53 ≤ p + 60; omega)
    have HR4 := Lib.hid hr4
    have HG4 := Lib.hid (gr_trans HG1.out hg4)
    clear hr4 hg4
    go_wp2_with fail
    go_ret
    exact ⟨x, q4, rfl, hx1, by omega, hq5, HR4.out, HG4.out⟩

/-- A code that came in. -/
def CodeAt (w : World) (b off n : Nat) (A : Option Addr) : Prop :=
  (0 < n → A = some ⟨b, off, none⟩ ∧ b < w.heap.size) ∧ ∀ j, j < n → ∃ z : Nat, z ≤ 255 ∧ w.cell? ⟨b, off + j, none⟩ = some (.int .u8 (z : Nat))
theorem CodeAt.reader {w : World} {b off n m c : Nat} {A : Option Addr} (h : CodeAt w b off n A) (hm : m ≤ n) (hm2 : m ≤ 2000) :
    RdAt (w.alloc (.cells #[.slice A m c, .int .i64 0] 96)) w.heap.size b off m c A 0 := by
  refine ⟨Blk.new _ _ _, (show CodeIn w w.heap.size b off m A from ⟨hm2, fun h0 => h.1 (by omega), fun j hj => h.2 j (by omega)⟩).keep fun q hq => ?_⟩
  exact ((Below.refl _ w).alloc (Nat.le_refl _) _).block q hq

set_option maxRecDepth 100000 in
theorem l6Open_any (b off n c : Nat) (A : Option Addr) (w : World) (h : CodeAt w b off n A) (hn : n ≤ 1048576) (hc : n ≤ c) (hc2 : c ≤ maxLen) :
    Calls Try.prog 61 #[.slice A n c] w fun e w' => ∃ m c', e = .returned (.pointer (some ⟨w.heap.size, 0, none⟩)) ∧ RdAt w' w.heap.size b off m c' A 0 ∧ Below w.heap.size w w' := by
  unfold maxLen at hc2
  by_cases hn2 : n ≤ 2000
  · have HRD := Lib.hid (h.reader (c := c) (Nat.le_refl _) hn2)
    clear h
    go_enter Try.func61, Try.ntmps61
    go_wp2_with fail
    go_ret
    exact ⟨n, c, rfl, HRD.out, (Below.refl _ _).alloc (Nat.le_refl _) _⟩
  · have HRD := Lib.hid (h.reader (m := 2000) (c := c) (by omega) (Nat.le_refl _))
    obtain ⟨ha, _⟩ := h.1 (by omega)
    subst ha
    clear h
    go_enter Try.func61, Try.ntmps61
    go_wp2_with fail
    go_ret
    exact ⟨2000, c, rfl, HRD.out, (Below.refl _ _).alloc (Nat.le_refl _) _⟩

end Go.Proofs.Ytmkjkoelpngicaa
