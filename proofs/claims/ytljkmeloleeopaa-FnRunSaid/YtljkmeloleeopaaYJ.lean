/- The model's run of a text. -/
import Derived.Test.YtljkmeloleeopaaYG
namespace Go.Proofs.Ytljkmeloleeopaa
set_option linter.unusedVariables false
set_option linter.unusedSimpArgs false
open Go.RowKit

/-- The cells of a Run. -/
def rnCells (S : St) (m : List Mv) : List Value := [.int .i64 (mvN .p m : Nat), .int .i64 (mvN .t m : Nat), .int .i64 (mvN .o m : Nat), .int .i64 (mvN .l m : Nat), .string ⟨S.name.toArray⟩, .int .i64 (S.st.length : Nat), .int .i64 (mvN .o m : Nat)]
/-- What the model's run of a text answers. -/
def RnPost (s : List UInt8) (w : World) (q : Ending) (w' : World) : Prop :=
  Below w.heap.size w w' ∧
  ((∃ S m sb u0 u1 u2 u3 u4, mcR s = some (S, m) ∧ q = .returned (.tuple #[.pointer (some ⟨sb, 0, none⟩), .bool true]) ∧
      Blk w' sb 53 #[u0, u1, u2, u3, u4, .int .i64 (mvN .p m : Nat), .int .i64 (mvN .t m : Nat), .int .i64 (mvN .o m : Nat), .int .i64 (mvN .l m : Nat), .string ⟨S.name.toArray⟩, .int .i64 (S.st.length : Nat), .int .i64 (mvN .o m : Nat), .string ⟨(letters m ++ [46]).toArray⟩]) ∨
   (mcR s = none ∧ ∃ sb, q = .returned (.tuple #[.pointer (some ⟨sb, 0, none⟩), .bool false])))
theorem mcR_ok {s : List UInt8} {S : St} {m : List Mv} (h : mcR s = some (S, m)) : StOk S m ∧ m.length ≤ 3000 := by
  unfold mcR at h
  split at h
  · cases h
  · rename_i t ht
    obtain ⟨a, b, c⟩ := mrun_ok 3000 _ _ _ _ (StOk.start t) h
    exact ⟨a, by simpa using c⟩

set_option maxRecDepth 100000 in
set_option maxHeartbeats 4000000 in
theorem l7Run_any (s : ByteArray) (w : World) (hm : s.size ≤ maxLen) :
    Calls Try.prog 23 #[.string s] w (RnPost s.data.toList w) := by
  go_enter Try.func23, Try.ntmps23
  go_wp2_with fail
  refine (l1Term_any s _ hm).mono ?_
  rintro e w1 ⟨hb1, ⟨t, v, hrd, rfl, htr⟩ | ⟨hrd, b, A, n, c, rfl⟩⟩
  · obtain ⟨A, n, c, rfl⟩ := htr.shape
    have hok := (rdTerm_good _ _ hrd).1
    have HMC : Hid (mcR s.data.toList = mrun 3000 ⟨t, .nil, [], 0⟩ []) := Lib.hid (by simp only [mcR, hrd])
    have HR := Lib.hid hrd
    have HS0 : Hid (MS (((w1.alloc (.cells #[.string ⟨(tmTr t).atom.toArray⟩, .slice A n c] 47)).alloc (.cells #[.string ⟨#[]⟩, .bool false, .string ⟨#[]⟩, .slice none 0 0, .int .i64 0, .int .i64 0, .int .i64 0] 78)).alloc (.cells #[.string ⟨(tmTr t).atom.toArray⟩, .slice A n c, .int .i64 0, .slice none 0 0, .slice (some ⟨w1.heap.size + 1, 0, none⟩) 1 1, .int .i64 0, .int .i64 0, .int .i64 0, .int .i64 0, .string ⟨#[]⟩, .int .i64 0, .int .i64 0, .string ⟨#[]⟩] 53))
        (fun b => w.heap.size ≤ b ∧ b < w1.heap.size) w1.heap.size (w1.heap.size + 2) ⟨t, .nil, [], 0⟩ [] ⟨t, A, n, c, 0⟩ [] [⟨[], none, 0, 0⟩] (.slice none 0 0) (.slice (some ⟨w1.heap.size + 1, 0, none⟩) 1 1)) := Lib.hid (by
      have hT := ((htr.alloc (fun b hb => hb.2) (.cells #[.string ⟨(tmTr t).atom.toArray⟩, .slice A n c] 47)).alloc (fun b hb => by have := hb.2; simp; omega) (.cells #[.string ⟨#[]⟩, .bool false, .string ⟨#[]⟩, .slice none 0 0, .int .i64 0, .int .i64 0, .int .i64 0] 78)).alloc (fun b hb => by have := hb.2; simp; omega) (.cells #[.string ⟨(tmTr t).atom.toArray⟩, .slice A n c, .int .i64 0, .slice none 0 0, .slice (some ⟨w1.heap.size + 1, 0, none⟩) 1 1, .int .i64 0, .int .i64 0, .int .i64 0, .int .i64 0, .string ⟨#[]⟩, .int .i64 0, .int .i64 0, .string ⟨#[]⟩] 53)
      have hbx := Blk.new ((w1.alloc (.cells #[.string ⟨(tmTr t).atom.toArray⟩, .slice A n c] 47)).alloc (.cells #[.string ⟨#[]⟩, .bool false, .string ⟨#[]⟩, .slice none 0 0, .int .i64 0, .int .i64 0, .int .i64 0] 78)) 53 #[.string ⟨(tmTr t).atom.toArray⟩, .slice A n c, .int .i64 0, .slice none 0 0, .slice (some ⟨w1.heap.size + 1, 0, none⟩) 1 1, .int .i64 0, .int .i64 0, .int .i64 0, .int .i64 0, .string ⟨#[]⟩, .int .i64 0, .int .i64 0, .string ⟨#[]⟩]
      rw [show ((w1.alloc (.cells #[.string ⟨(tmTr t).atom.toArray⟩, .slice A n c] 47)).alloc (.cells #[.string ⟨#[]⟩, .bool false, .string ⟨#[]⟩, .slice none 0 0, .int .i64 0, .int .i64 0, .int .i64 0] 78)).heap.size = w1.heap.size + 2 from by simp] at hbx
      have hrow := (Blk.new (w1.alloc (.cells #[.string ⟨(tmTr t).atom.toArray⟩, .slice A n c] 47)) 78 #[.string ⟨#[]⟩, .bool false, .string ⟨#[]⟩, .slice none 0 0, .int .i64 0, .int .i64 0, .int .i64 0]).alloc (.cells #[.string ⟨(tmTr t).atom.toArray⟩, .slice A n c, .int .i64 0, .slice none 0 0, .slice (some ⟨w1.heap.size + 1, 0, none⟩) 1 1, .int .i64 0, .int .i64 0, .int .i64 0, .int .i64 0, .string ⟨#[]⟩, .int .i64 0, .int .i64 0, .string ⟨#[]⟩] 53)
      rw [show (w1.alloc (.cells #[.string ⟨(tmTr t).atom.toArray⟩, .slice A n c] 47)).heap.size = w1.heap.size + 1 from by simp] at hrow
      refine ⟨hbx, World.ownsRow_nil _ _ _ _, ⟨rfl, .inr ⟨w1.heap.size + 1, 1, _, rfl, by omega, hrow, by simp, by unfold maxLen; omega, rfl, rfl⟩⟩, rfl, rfl, rfl, rfl, ⟨hok, hT⟩, (fun c hc => by cases hc), ?_, by simp, StOk.start t, fun b hb => hb.2, by omega⟩
      intro i z c hz hc
      cases i with
      | zero => simp at hz; subst hz; cases hc
      | succ i => simp at hz)
    generalize (tmTr t).atom = ta at *
    have hz1 := hb1.size
    have HB1 := Lib.hid hb1
    clear hrd htr hok hb1
    go_wp2_with fail
    go_loopg [7] 3001 (fun q v wr => ∃ S m a l E sv ev, q = 3001 - m.length ∧ m.length ≤ 3001 ∧ v = .int .i64 (m.length : Nat) ∧ Hid (MS wr (fun b => w.heap.size ≤ b ∧ b < w1.heap.size) w1.heap.size (w1.heap.size + 2) S m a l E sv ev) ∧ Hid (Below w.heap.size w wr) ∧
      Hid ((m.length ≤ 3000 → mcR s.data.toList = mrun (3000 - m.length) S m) ∧ (3000 < m.length → mcR s.data.toList = none)))
    case atStart => exact ⟨_, _, _, _, _, _, _, rfl, by simp, rfl, HS0, Lib.hid (((HB1.out.alloc (by omega) _).alloc (by simp; omega) _).alloc (by simp; omega) _), Lib.hid ⟨fun _ => HMC.out, fun h => by simp at h⟩⟩
    case round =>
      obtain ⟨S, m, a, l, E, sv, ev, hq, hml, rfl, HS, HB, HC⟩ := hrel
      have HQ := Lib.hid hq
      clear hq
      generalize hML : m.length = n at *
      have HML := Lib.hid hML
      clear hML
      by_cases hle : n ≤ 3000
      · go_wp2_with fail
        refine (l7Move_any wr _ w1.heap.size (w1.heap.size + 2) S m a l E sv ev HS.out (by rw [HML.out]; omega)).mono ?_
        rintro e w2 (⟨rfl, k, S', a', l', E', sv', ev', hst, hms, hb2⟩ | ⟨hst, rfl, ⟨u0, u1, u2, u3, u4, hbx⟩, hb2⟩)
        · have HST := Lib.hid hst
          have HMS := Lib.hid hms
          have HB2 := Lib.hid (HB.out.trans (hb2.mono hz1))
          clear hst hms hb2
          go_wp2_with fail
          go_roundg (3000 - n)
          case rel =>
            refine ⟨S', m ++ [k], a', l', E', sv', ev', by simp [HML.out]; try omega, by simp [HML.out]; omega, by rw [List.length_append, HML.out]; go_num, HMS, HB2, Lib.hid ⟨fun h => ?_, fun h => ?_⟩⟩
            · rw [List.length_append, HML.out, List.length_singleton] at h
              rw [HC.out.1 hle, show 3000 - n = (3000 - (n + 1)) + 1 from by omega, mrun_step HST.out, List.length_append, HML.out]
              rfl
            · rw [List.length_append, HML.out, List.length_singleton] at h
              rw [HC.out.1 hle, show 3000 - n = 0 from by omega, mrun_stop HST.out]
          case measure => rw [HQ.out]; omega
        · have HBX := Lib.hid hbx
          have HB2 := Lib.hid (HB.out.trans (hb2.mono hz1))
          have HRES : Hid (mcR s.data.toList = some (S, m)) := Lib.hid (by rw [HC.out.1 hle, mrun_end hst])
          clear hst hbx hb2
          go_wp2_with fail
          go_ret2
          exact ⟨HB2.out, .inl ⟨S, m, _, u0, u1, u2, u3, u4, HRES.out, rfl, HBX.out⟩⟩
      · have HRES : Hid (mcR s.data.toList = none) := Lib.hid (HC.out.2 (by omega))
        go_wp2_with fail
        go_ret2
        exact ⟨HB.out, .inr ⟨HRES.out, _, rfl⟩⟩
  · have HRES : Hid (mcR s.data.toList = none) := Lib.hid (by simp only [mcR, hrd])
    have hz1 := hb1.size
    have HB1 := Lib.hid hb1
    clear hrd hb1
    go_wp2_with fail
    go_ret2
    exact ⟨((HB1.out.alloc (by omega) _).alloc (by simp; omega) _).alloc (by simp; omega) _, .inr ⟨HRES.out, _, rfl⟩⟩
end Go.Proofs.Ytljkmeloleeopaa
