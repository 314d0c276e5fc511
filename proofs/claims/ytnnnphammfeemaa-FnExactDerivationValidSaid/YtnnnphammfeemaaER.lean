/- The program counts the nodes of derivations, and reads them. -/
import Derived.Test.YtnnnphammfeemaaEO
import Derived.Test.YtnnnphammfeemaaDE
import Derived.Test.YtnnnphammfeemaaRK
import Derived.Test.YtnnnphammfeemaaI7
namespace Go.Proofs.Ytnnnphammfeemaa
set_option linter.unusedVariables false
open Go.RowKit Go.Shelf
attribute [local go_sem] Oper.semAt_some

theorem NElAt.steady {P : Nat → Prop} {n₀ D : Nat} {x : NEl} {w w' : World} (h : NElAt P x w) (hs : Steady D w w') (hP : ∀ b, P b → b < n₀) (hn : n₀ ≤ D) : NElAt P x w' :=
  DnAt.mono h fun b hb => ⟨hb, hs.below.block b (by have := hP b hb; omega)⟩
theorem nset_far (W : World) (b i : Nat) (v : Value) (q : Nat) (h : q ≠ b) : (W.setCell ⟨b, i, none⟩ v).heap[q]? = W.heap[q]? := Below.heap_setCell _ _ _ _ (by simpa using h)
theorem nmid_set {tk : TypeId → Prop} {n₀ n₁ : Nat} {W : World} {b i : Nat} (v : Value) (h0 : n₀ ≤ b) (h1 : b < n₁) : Mid tk n₀ n₁ W (W.setCell ⟨b, i, none⟩ v) :=
  ⟨(Below.refl _ _).setCell (p := ⟨b, i, none⟩) (by simpa using h0) v, fun q cs t hq _ h3 => (nset_far W b i v q (by omega)).trans h3⟩
theorem nbelow_putObj {B : Nat} {W : World} {l : Nat} {o : Obj} (h : B ≤ l) : Below B W (W.putObj l o) := putObj_below _ _ _ _ h
theorem nEnds_set {D : Nat} {W : World} {b i : Nat} {v : Value} (h : b < D) : Ends D W (W.setCell ⟨b, i, none⟩ v) := ⟨nset_far _ _ _ _ _ (by omega), nset_far _ _ _ _ _ (by omega)⟩

set_option maxRecDepth 100000 in
set_option maxHeartbeats 2000000 in
theorem countNodes_any (t : Tr) (v : Value) (w : World) (P : Nat → Prop) (hd : DnAt w P t v) (hP : ∀ b, P b → b < w.heap.size) (hN : dvN t ≤ 20000) :
    Calls Try.prog 12 #[v] w fun e w' => e = .returned (.int .i64 (dvN t)) ∧ Below w.heap.size w w' := by
  obtain ⟨T, b, rfl, hb⟩ := hd.shape
  have hlen := nodes_length t
  refine (callsIn_wide (n := 3)).1 ?_
  refine callsIn_of_wp_marks Try.func12 rfl trivial ?_
  simp only [Try.ntmps12, List.size_toArray, List.length_cons, List.length_nil, Nat.reduceAdd, Nat.reduceSub, Array.replicate_succ, Array.replicate_zero, List.push_toArray, List.append_toArray, List.nil_append, List.cons_append]
  gi_wp2_with ((try refine ⟨trivial, ?_⟩); (try refine ⟨hdW' _, ?_⟩); gi_at_call 20; refine (callsIn_wide.2 (nodes_any T b _)).mono ?_; rintro e w1 ⟨rfl, rfl⟩)
  have hB0 : Boxed (w.alloc (.cells #[.int .i64 0] 3)) w.heap.size 3 (.int .i64 0) := Boxed.new _ _ _
  have hW0 : Below w.heap.size w (w.alloc (.cells #[.int .i64 0] 3)) := (Below.refl _ _).alloc (Nat.le_refl _) _
  have hs0 : (w.alloc (.cells #[.int .i64 0] 3)).heap.size = w.heap.size + 1 := by simp
  generalize w.alloc (.cells #[.int .i64 0] 3) = w0 at hB0 hW0 hs0
  have hb1 : (w0.alloc (.cells #[.iface T (.pointer (some ⟨b, 0, none⟩))] 30)).cell? ⟨w0.heap.size, 0, none⟩ = some (.iface T (.pointer (some ⟨b, 0, none⟩))) := (Boxed.new _ _ _).cell
  have hB1 : Boxed (w0.alloc (.cells #[.iface T (.pointer (some ⟨b, 0, none⟩))] 30)) w.heap.size 3 (.int .i64 0) := hB0.alloc _
  have hW1 : Below w.heap.size w (w0.alloc (.cells #[.iface T (.pointer (some ⟨b, 0, none⟩))] 30)) := hW0.alloc (by omega) _
  have hs1 : (w0.alloc (.cells #[.iface T (.pointer (some ⟨b, 0, none⟩))] 30)).heap.size = w.heap.size + 2 := by simp [hs0]
  rw [hs0] at hb1
  generalize w0.alloc (.cells #[.iface T (.pointer (some ⟨b, 0, none⟩))] 30) = w1 at hb1 hB1 hW1 hs1
  refine wp_rounds (n₀ := w.heap.size) (tk := dnT) rfl (by omega) (gf := 28) (lb := #[.pointer (some ⟨w.heap.size + 1, 0, none⟩)]) rfl trivial (enters_of Try.func28 (by kernel_rfl) rfl) (by omega)
    (nodes_gives P w.heap.size _ _ (w.heap.size + 1) b T t w1 (by omega) hb1 (hd.mono fun q hq => ⟨hq, hW1.block q (hP q hq)⟩) hP (by omega) (by omega) hN) (fun _ => rfl)
    (fun pre W => Boxed W w.heap.size 3 (.int .i64 (pre.length : Nat)) ∧ Below w.heap.size w W) (fun _ _ _ => False)
    (fun x W W' h hs => h.steady hs hP (by omega)) (fun s W W' h hs => ⟨(hs.below.block _ (by omega)).trans h.1, h.2.trans (hs.below.mono (by omega))⟩) (fun _ _ _ _ h _ => h) ⟨hB1, hW1⟩ ?a₁ ?assign ?body ?done ?stop
  case assign =>
    intro l x W K hK
    dsimp only [nelV]
    gi_wp2
    exact hK
  case body =>
    rintro l pre x W ⟨hbx, hw⟩ hx hlen2 hz
    obtain ⟨u, r⟩ := x
    have hcell := hbx.cell
    have hfr := hbx.frozen
    have hpre : pre.length ≤ 20000 := by omega
    have e1 : IntKind.i64.wrap ((pre.length : Int) + 1) = ((pre.length + 1 : Nat) : Int) := by rw [IntWalk.i64_in _ (by omega)]; omega
    clear hx
    gi_wp2
    refine ⟨nEnds_set (by omega), nmid_set _ (Nat.le_refl _) (by omega), ?_, hw.setCell (p := ⟨w.heap.size, 0, none⟩) (Nat.le_refl _) _⟩
    rw [List.length_append, List.length_singleton]
    exact hbx.set _
  case done =>
    rintro xs W hxs ⟨hbx, hw⟩ hK
    have hcell := hbx.cell
    gi_wp2
    refine ⟨by simp, .inl ⟨_, _, rfl, run_takeDeferred hK, ?_⟩⟩
    refine ⟨_, results_tmp rfl _ _ _, ?_, hw.trans (nbelow_putObj (by omega))⟩
    rw [← hlen, ← hxs, List.length_map]
    rfl
  case stop =>
    intro c pre W _ h _
    exact h.elim

/-- What reading a derivation answers. -/
def RvPost (x : List UInt8) (s : ByteArray) (w : World) (e : Ending) (w' : World) : Prop :=
  Below w.heap.size w w' ∧ ((∃ t u, rdDv x s.data.toList = some t ∧ e = .returned (.tuple #[u, .bool true]) ∧ DnAt w' (fun b => w.heap.size ≤ b ∧ b < w'.heap.size) t u) ∨ (rdDv x s.data.toList = none ∧ e = .returned (.tuple #[.nilIface, .bool false])))
set_option maxRecDepth 100000 in
set_option maxHeartbeats 1000000 in
theorem readDerivation_any (x : List UInt8) (s : ByteArray) (w : World) (hm : s.size ≤ maxLen) :
    Calls Try.prog 10 #[.string ⟨x.toArray⟩, .string s] w (RvPost x s w) := by
  have CK := Lib.hid (readKind_any x w)
  cases hk : rdKind x with
  | none =>
    have HR : Hid (rdDv x s.data.toList = none) := Lib.hid (by unfold rdDv; rw [hk])
    rw [hk] at CK
    clear hk
    go_enter Try.func10, Try.ntmps10
    go_wp2_with fail
    refine CK.out.mono ?_
    rintro e w1 ⟨rfl, rfl⟩
    simp only [Option.isSome]
    go_wp2_with fail
    go_ret2
    exact ⟨Below.refl _ _, .inr ⟨HR.out, rfl⟩⟩
  | some k =>
    have HXK : Hid (x = kindT k) := Lib.hid (rdKind_some x k hk)
    have HK := Lib.hid hk
    rw [hk] at CK
    clear hk
    go_enter Try.func10, Try.ntmps10
    go_wp2_with fail
    refine CK.out.mono ?_
    rintro e w1 ⟨rfl, rfl⟩
    simp only [Option.isSome]
    go_wp2_with fail
    refine (readText_any s _ hm).mono ?_
    rintro e w2 ⟨hb2, ⟨t, v, hrd, rfl, hpt⟩ | ⟨hrd, rfl⟩⟩
    · obtain ⟨b, rfl, _⟩ := hpt.shape
      have hok := rdText_ok _ _ hrd
      have htx := rdText_text _ _ hrd
      have hz2 := hb2.size
      have C := Lib.hid (derivationOf_any k t _ w2 _ hpt (fun q hq => hq.2) hok.1 (by rw [htx]; exact hok.2.2) (by omega))
      have hat := ndOk_atoms k t
      have HB2 := Lib.hid hb2
      have HRD := Lib.hid hrd
      have HAT : Hid (isDv k t = true → dvN t ≤ 20000) := Lib.hid fun h => by have := hat h; omega
      rw [← HXK.out] at C
      clear hpt hok htx hat hb2 hrd
      go_wp2_with fail
      refine C.out.mono ?_
      rintro e w3 ⟨hb3, ⟨hdv, u, rfl, hu⟩ | ⟨hdv, rfl⟩⟩
      · obtain ⟨T, q, rfl, _⟩ := hu.shape
        have hz3 := hb3.size
        have CN := Lib.hid (countNodes_any t _ w3 _ hu (fun q hq => hq.2) (HAT.out hdv))
        have HU := Lib.hid hu
        have HB3 := Lib.hid (HB2.out.trans (hb3.mono hz2))
        have HR : Hid (rdDv x s.data.toList = if dvN t ≤ 600 then some t else none) := Lib.hid (by unfold rdDv; rw [HK.out, HRD.out]; simp only [hdv, true_and])
        have hn2 := HAT.out hdv
        obtain ⟨N, hN⟩ : ∃ N, dvN t = N := ⟨_, rfl⟩
        rw [hN] at CN HR hn2
        clear hu hb3 hdv hN
        by_cases h6 : N ≤ 600
        · have hb : decide ((600 : Int) < (N : Int)) = false := decide_eq_false (by omega)
          have H6 := Lib.hid h6
          go_wp2_with fail
          refine CN.out.mono ?_
          rintro e w4 ⟨rfl, hb4⟩
          have hz4 := hb4.size
          have HB4 := Lib.hid hb4
          clear hb4
          go_wp2_with fail
          go_ret2
          refine ⟨HB3.out.trans (HB4.out.mono (by omega)), .inl ⟨t, _, by rw [HR.out, if_pos H6.out], rfl, HU.out.mono fun b hb => ⟨⟨by omega, by omega⟩, HB4.out.block b hb.2⟩⟩⟩
        · have hb : decide ((600 : Int) < (N : Int)) = true := decide_eq_true (by omega)
          have H6 := Lib.hid h6
          go_wp2_with fail
          refine CN.out.mono ?_
          rintro e w4 ⟨rfl, hb4⟩
          have HB4 := Lib.hid hb4
          clear hb4
          go_wp2_with fail
          go_ret2
          exact ⟨HB3.out.trans (HB4.out.mono (by omega)), .inr ⟨by rw [HR.out, if_neg H6.out], rfl⟩⟩
      · have HR : Hid (rdDv x s.data.toList = none) := Lib.hid (by unfold rdDv; rw [HK.out, HRD.out]; simp [hdv])
        have HB3 := Lib.hid (HB2.out.trans (hb3.mono hz2))
        clear hdv hb3
        go_wp2_with fail
        go_ret2
        exact ⟨HB3.out, .inr ⟨HR.out, rfl⟩⟩
    · have HR : Hid (rdDv x s.data.toList = none) := Lib.hid (by unfold rdDv; rw [HK.out, hrd])
      clear hrd
      go_wp2_with fail
      go_ret2
      exact ⟨hb2, .inr ⟨HR.out, rfl⟩⟩
end Go.Proofs.Ytnnnphammfeemaa
