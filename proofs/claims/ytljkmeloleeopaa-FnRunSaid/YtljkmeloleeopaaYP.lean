/- The program's run of a text. -/
import Derived.Test.YtljkmeloleeopaaYO
import Derived.Laws.EntriesVeiled
namespace Go.Proofs.Ytljkmeloleeopaa
set_option linter.unusedVariables false
set_option linter.unusedSimpArgs false
open Go.RowKit

set_option maxRecDepth 100000 in
set_option maxHeartbeats 4000000 in
theorem newMachine_any (t : Tm) (v : Value) (w : World) (P : Nat → Prop) (h : DAt w P (toDB [] t) v) (hP : ∀ b, P b → b < w.heap.size) :
    Calls Try.prog 30 #[v] w fun q w' => q = .returned (.pointer (some ⟨w.heap.size + 1, 0, none⟩)) ∧ MI w' P w.heap.size (w.heap.size + 1) ⟨t, .nil, [], 0⟩ [] w.heap.size (.slice none 0 0) (.slice none 0 0) [] ∧ Below w.heap.size w w' := by
  obtain ⟨tb, rfl, hPb⟩ := h.shape
  have hmf : ∀ (fn : Fn) (first cap : Array Value) (w : World), (Instr.makeFunc fn first cap).run Try.prog w = .ok (.func fn first cap) w := fun _ _ _ _ => rfl
  have HFIN : Hid (MI ((w.alloc (.cells #[.pointer (some ⟨tb, 0, none⟩), .pointer none] 94)).alloc (.cells #[.pointer (some ⟨w.heap.size, 0, none⟩), .slice none 0 0, .slice none 0 0, .int .i64 0, fnV 42 (w.heap.size + 1), fnV 43 (w.heap.size + 1), fnV 44 (w.heap.size + 1), fnV 45 (w.heap.size + 1)] 59)) P w.heap.size (w.heap.size + 1) ⟨t, .nil, [], 0⟩ [] w.heap.size (.slice none 0 0) (.slice none 0 0) [] ∧ Below w.heap.size w ((w.alloc (.cells #[.pointer (some ⟨tb, 0, none⟩), .pointer none] 94)).alloc (.cells #[.pointer (some ⟨w.heap.size, 0, none⟩), .slice none 0 0, .slice none 0 0, .int .i64 0, fnV 42 (w.heap.size + 1), fnV 43 (w.heap.size + 1), fnV 44 (w.heap.size + 1), fnV 45 (w.heap.size + 1)] 59))) := Lib.hid (by
    refine ⟨⟨?_, ⟨w.heap.size, tb, .pointer none, rfl, (Blk.new w _ _).alloc _, ?_, rfl⟩, World.ownsRow_nil _ _ _ _, rfl, World.ownsRow_nil _ _ _ _, hP, by omega⟩, ((Below.refl _ _).alloc (Nat.le_refl _) _).alloc (by simp) _⟩
    · have := Blk.new (w.alloc (.cells #[.pointer (some ⟨tb, 0, none⟩), .pointer none] 94)) 59 #[.pointer (some ⟨w.heap.size, 0, none⟩), .slice none 0 0, .slice none 0 0, .int .i64 0, fnV 42 (w.heap.size + 1), fnV 43 (w.heap.size + 1), fnV 44 (w.heap.size + 1), fnV 45 (w.heap.size + 1)]
      rw [show (w.alloc (.cells #[.pointer (some ⟨tb, 0, none⟩), .pointer none] 94)).heap.size = w.heap.size + 1 from by simp] at this
      exact this
    · exact DAt.mono (fun q hq => ⟨hq, by rw [Below.heap_alloc _ _ _ (by have := hP q hq; simp; omega), Below.heap_alloc _ _ _ (hP q hq)]⟩) h)
  unfold fnV at HFIN
  clear h hP
  go_enter Try.func30, Try.ntmps30
  go_wp2_with fail
  go_ret
  exact ⟨rfl, HFIN.out⟩

/-- What the program's run of a text answers. -/
def RxPost (s : List UInt8) (w : World) (q : Ending) (w' : World) : Prop :=
  Below w.heap.size w w' ∧
  ((∃ S m P lo mb nb sv mv vs, mcR s = some (S, m) ∧ q = .returned (.tuple #[.pointer (some ⟨mb, 0, none⟩), .bool true]) ∧ MI w' P lo mb S m nb sv mv vs ∧ StBd m.length S ∧ w.heap.size ≤ lo) ∨
   (mcR s = none ∧ ∃ p, q = .returned (.tuple #[.pointer p, .bool false])))

set_option maxRecDepth 100000 in
set_option maxHeartbeats 4000000 in
theorem runText_any (s : ByteArray) (w : World) (hm : s.size ≤ maxLen) :
    Calls Try.prog 21 #[.string s] w (RxPost s.data.toList w) := by
  go_enter Try.func21, Try.ntmps21
  go_wp2_with fail
  refine (readTerm_any s _ hm).mono ?_
  rintro e w1 ⟨hb1, ⟨t, v, hrd, rfl, htr⟩ | ⟨hrd, rfl⟩⟩
  · have HMC : Hid (mcR s.data.toList = mrun 3000 ⟨t, .nil, [], 0⟩ []) := Lib.hid (by simp only [mcR, hrd])
    have hz1 := hb1.size
    have HB1 := Lib.hid hb1
    have HN := Lib.hid (newMachine_any t v w1 _ htr (fun b hb => hb.2))
    obtain ⟨tb, rfl, _⟩ := htr.shape
    clear hrd htr hb1
    go_wp2_with fail
    refine HN.out.mono ?_
    rintro e w2 ⟨rfl, hmi, hb2⟩
    have HR := Lib.hid (run_any w2 _ w1.heap.size (w1.heap.size + 1) _ _ _ _ _ hmi (StOk.start t) ⟨trivial, fun p hp => by cases hp⟩)
    have HB2 := Lib.hid (HB1.out.trans (hb2.mono hz1))
    clear hmi hb2
    go_wp2_with fail
    refine HR.out.mono ?_
    rintro e w3 ⟨hb3, ⟨S, m, nb, sv, mv, vs, hres, rfl, hmi, hbd⟩ | ⟨hres, rfl⟩⟩
    · have HRES : Hid (mcR s.data.toList = some (S, m)) := Lib.hid (by rw [HMC.out, hres])
      have HM := Lib.hid hmi
      have HBD := Lib.hid hbd
      have HB3 := Lib.hid (HB2.out.trans (hb3.mono hz1))
      clear hres hmi hbd hb3
      go_wp2_with fail
      go_ret2
      exact ⟨HB3.out, .inl ⟨S, m, _, _, _, nb, sv, mv, vs, HRES.out, rfl, HM.out, HBD.out, hz1⟩⟩
    · have HRES : Hid (mcR s.data.toList = none) := Lib.hid (by rw [HMC.out, hres])
      have HB3 := Lib.hid (HB2.out.trans (hb3.mono hz1))
      clear hres hb3
      go_wp2_with fail
      go_ret2
      exact ⟨HB3.out, .inr ⟨HRES.out, _, rfl⟩⟩
  · have HRES : Hid (mcR s.data.toList = none) := Lib.hid (by simp only [mcR, hrd])
    have HB1 := Lib.hid hb1
    clear hrd hb1
    go_wp2_with fail
    go_ret2
    exact ⟨HB1.out, .inr ⟨HRES.out, _, rfl⟩⟩
end Go.Proofs.Ytljkmeloleeopaa
