/- The program's trace. -/
import Derived.Test.YtljkmeloleeopaaYR
import Derived.Test.YtljkmeloleeopaaBX
namespace Go.Proofs.Ytljkmeloleeopaa
set_option linter.unusedVariables false
set_option linter.unusedSimpArgs false
open Go.RowKit

theorem Bld.ne {B b : Nat} {l : List UInt8} {w : World} (hb : Bld B b l w) {g t : Nat} {cs : Array Value} (h : Blk w g t cs) (ht : t ≠ 82) : g ≠ b := by
  intro e
  subst e
  rcases hb with ⟨_, v, hbk, _⟩ | ⟨_, v, hbk, _⟩
  all_goals
    have := (show w.heap[g]? = _ from h).symm.trans hbk
    simp at this
    exact ht this.2
/-- A row of moves outlives what is written to a Builder. -/
theorem row_wrote {w w' : World} {base n B b : Nat} {l : List UInt8} {v : Value} {xs : List Value} (h : w.ownsRow base 73 1 v n xs) (hb : Bld B b l w) (ho : Oth b w w') : w'.ownsRow base 73 1 v n xs := by
  obtain ⟨h1, h2⟩ := h
  refine ⟨h1, ?_⟩
  rcases h2 with h2 | ⟨g, cap, cur, rfl, hg, hh, r⟩
  · exact .inl h2
  · refine .inr ⟨g, cap, cur, rfl, hg, ho g _ hh (fun e => ?_) (fun c fz e => by injection e with _ e; exact absurd e (by decide)), r⟩
    exact hb.ne (show Blk w g _ cur from hh) (by decide) (Option.some.inj e)

/-- The letter of a move's number. -/
def codeL : Nat → UInt8
  | 0 => 112
  | 1 => 116
  | 2 => 111
  | 3 => 108
  | _ => 46
/-- The numbers of the moves and of the end. -/
def codes (m : List Mv) : List Nat := m.map Mv.code ++ [4]
theorem codes_letters (m : List Mv) : (codes m).map codeL = letters m ++ [46] := by
  unfold codes letters
  rw [List.map_append, List.map_map]
  congr 1
  apply List.map_congr_left
  intro k _
  cases k <;> rfl
theorem codes_lt (m : List Mv) : ∀ c, c ∈ codes m → c ≤ 4 := by
  intro c hc
  unfold codes at hc
  rcases List.mem_append.1 hc with h | h
  · obtain ⟨k, _, rfl⟩ := List.mem_map.1 h
    cases k <;> simp [Mv.code]
  · simp at h; omega
theorem ptol (c : Nat) (h : c ≤ 4) : ∃ hc : c < (⟨#[112, 116, 111, 108, 46]⟩ : ByteArray).size, (⟨#[112, 116, 111, 108, 46]⟩ : ByteArray)[c] = codeL c := by
  match c, h with
  | 0, _ => exact ⟨by decide, rfl⟩
  | 1, _ => exact ⟨by decide, rfl⟩
  | 2, _ => exact ⟨by decide, rfl⟩
  | 3, _ => exact ⟨by decide, rfl⟩
  | 4, _ => exact ⟨by decide, rfl⟩

set_option maxRecDepth 100000 in
set_option maxHeartbeats 8000000 in
theorem trace_any (w : World) (P : Nat → Prop) (lo mb : Nat) (S : St) (m : List Mv) (nb : Nat) (sv mv : Value) (vs : List Value) (k : Nat)
    (h : MI w P lo mb S m nb sv mv vs) (hm : m.length ≤ 3000) (hk : k ≤ 300) :
    Calls Try.prog 25 #[.pointer (some ⟨mb, 0, none⟩), .int .i64 (k : Nat)] w fun q w' => q = .returned (.string ⟨((letters m ++ [46]).take k).toArray⟩) ∧ Below lo w w' := by
  obtain ⟨gm, cm, rfl⟩ := own_shape h.made
  have b2 := h.box.cell 2
  have bl := h.box.lt
  simp only [List.getElem?_toArray, List.getElem?_cons_zero, List.getElem?_cons_succ] at b2
  have hbs := h.bs
  have H := Lib.hid h
  obtain ⟨i0, hinf, hz0, hzs, hzb⟩ := info_parts infoMv1
  have HML := Lib.hid (show (codes m).length = m.length + 1 from by simp [codes])
  have hLE : m.length + 1 ≤ 3001 := by omega
  clear h
  go_enter Try.func25, Try.ntmps25
  go_wp2_with (first
    | (at_builtin
       refine wpList_append_own_at _ rfl (.tmp 11) (.tmp 12) 56 rfl lo 73 i0 (.int .i64 0) 1 8 Try.underlying56 hinf hz0 hzs hzb rfl (by decide) (.slice gm m.length cm) m.length (mvVals m) rfl ((H.out.made.alloc _).alloc _) ⟨w.heap.size + 1, 0, none⟩ 1 1 [.int .i64 4] rfl rfl ?_ ?_ ?_ ?_ ?_ ?_
       · have := cell_one_new (w.alloc (.cells #[.pointer none, .slice none 0 0] 82)) (.int .i64 4) 73
         simpa using this
       · intro u hu
         simp at hu
         subst hu
         rfl
       · unfold maxLen; omega
       · omega
       · simp; omega
       intro v3 w3 hown3 hg3 hlt3 hat3
       obtain ⟨g3, c3, hv3, _, _, _⟩ := own_pos hown3 (by omega)
       subst hv3
       have HO3 := Lib.hid hown3
       have HG3 := Lib.hid hg3
       clear hown3 hg3 hlt3 hat3)
    | fail)
  have hBu : w3.heap[w.heap.size]? = some (.cells #[.pointer none, .slice none 0 0] 82 (0, 0)) := by
    have q := ((Blk.new w 82 #[.pointer none, .slice none 0 0]).alloc (.cells #[.int .i64 4] 73)).grown HG3.out (((Blk.new w 82 #[.pointer none, .slice none 0 0]).alloc (.cells #[.int .i64 4] 73)).apart (by decide) ((H.out.made.alloc _).alloc _))
    exact q
  have HB0 : Hid (Bld w.heap.size w.heap.size [] w3) := Lib.hid (.inl ⟨Nat.le_refl _, _, hBu, World.ownsRowF_nil _ _ _ _, by simp [Value.ownBlock]⟩)
  have HBB : Hid (Below lo w w3) := Lib.hid ((((Below.refl lo w).alloc (by omega) (.cells #[.pointer none, .slice none 0 0] 82)).alloc (by simp; omega) (.cells #[.int .i64 4] 73)).grown HG3.out (by simp; omega) (fun q hq => (H.out.made.lt q hq).1))
  have hws : w.heap.size ≤ w3.heap.size := by have := (Array.getElem?_eq_some_iff.1 hBu).1; omega
  have HR0 : Hid (w3.ownsRow lo 73 1 (.slice (some ⟨g3, 0, none⟩) (m.length + 1) c3) (m.length + 1) ((codes m).map fun c => .int .i64 (c : Nat))) := Lib.hid (by
    have := HO3.out
    have e : mvVals m ++ [.int .i64 4] = (codes m).map fun c : Nat => Value.int .i64 (c : Nat) := by simp [mvVals, codes]
    rw [e] at this
    exact this)
  clear b2 hBu
  generalize hN : m.length + 1 = N at *
  have HN := Lib.hid hN
  clear hN
  go_loopg [15] N (fun q v wr => ∃ i : Nat, q = N - i ∧ i ≤ N ∧ i ≤ k ∧ v = .int .i64 (i : Nat) ∧ Hid (Bld w.heap.size w.heap.size ((letters m ++ [46]).take i) wr) ∧ Hid (Below lo w wr) ∧ w.heap.size ≤ wr.heap.size ∧ Hid (wr.ownsRow lo 73 1 (.slice (some ⟨g3, 0, none⟩) N c3) N ((codes m).map fun c => .int .i64 (c : Nat))))
  case atStart => exact ⟨0, by omega, by omega, by omega, rfl, HB0, HBB, hws, HR0⟩
  case round =>
    obtain ⟨i, hq, hi, hik, rfl, HB, HBE, hwz, HR⟩ := hrel
    have HQ := Lib.hid hq
    clear hq
    have hll : ((letters m ++ [46]).take i).length = i := by
      rw [List.length_take]; simp [letters]; have := HN.out; omega
    have HLL := Lib.hid hll
    have HLN := Lib.hid (bLen_any w.heap.size w.heap.size _ wr HB.out)
    rw [hll] at HLN
    clear hll
    by_cases hlt : i < N
    · have hd : decide ((i : Int) < (m.length : Int) + 1) = true := decide_eq_true (by have := HN.out; omega)
      have hci : i < (codes m).length := by have := HML.out; have := HN.out; omega
      have hcell := own_cell HR.out (j := i) (u := .int .i64 ((codes m)[i] : Nat)) (by simp [hci])
      have hgl := (HR.out.lt g3 rfl).2
      have hc4 := codes_lt m _ (List.getElem_mem hci)
      obtain ⟨hsz, hlet⟩ := ptol _ hc4
      have HNX : Hid ((letters m ++ [46]).take (i + 1) = (letters m ++ [46]).take i ++ [codeL (codes m)[i]]) := Lib.hid (by
        have hl2 : i < (letters m ++ [46]).length := by simp [letters]; have := HN.out; omega
        rw [List.take_succ_eq_append_getElem hl2]
        congr 2
        have h3 : (letters m ++ [46])[i]? = some (codeL (codes m)[i]) := by rw [← codes_letters]; simp [hci]
        rw [List.getElem?_eq_getElem hl2] at h3
        injection h3)
      generalize (codes m)[i] = c at *
      by_cases hik2 : i = k
      · have HST := Lib.hid (bString_any w.heap.size w.heap.size _ wr HB.out hwz)
        have HIK := Lib.hid hik2
        have heq : ((i : Int) == (k : Int)) = true := beq_iff_eq.2 (by omega)
        clear hik2 hlet
        go_wp2_with fail
        refine HLN.out.mono ?_
        rintro q w4 ⟨rfl, rfl⟩
        go_wp2_with fail
        refine HST.out.mono ?_
        rintro q w5 ⟨rfl, hb5⟩
        have HB5 := Lib.hid (HBE.out.trans (hb5.mono (by omega)))
        clear hb5
        go_wp2_with fail
        go_ret
        exact ⟨by rw [HIK.out]; rfl, HB5.out⟩
      · have hne : ((i : Int) == (k : Int)) = false := beq_eq_false_iff_ne.2 (by omega)
        have hik3 : i + 1 ≤ k := by omega
        have HWB := Lib.hid (writeByte_any w.heap.size w.heap.size _ (codeL c) wr HB.out (by rw [HLL.out]; omega) hwz)
        have HLT := Lib.hid hlet
        clear hik2 hlet
        go_wp2_with fail
        refine HLN.out.mono ?_
        rintro q w4 ⟨rfl, rfl⟩
        go_wp2_with fail
        rw [HLT.out]
        refine HWB.out.mono ?_
        rintro q w5 ⟨rfl, hbl, hb5, ho5⟩
        have HB5 := Lib.hid (HBE.out.trans (hb5.mono (by omega)))
        have HR5 := Lib.hid (row_wrote HR.out HB.out ho5)
        have HBL := Lib.hid hbl
        have hz5 := hb5.size
        clear hbl hb5 ho5
        go_wp2_with fail
        go_roundg (N - (i + 1))
        case rel => exact ⟨i + 1, by omega, by omega, hik3, by go_num, Lib.hid (by rw [HNX.out]; exact HBL.out), HB5, by omega, HR5⟩
        case measure => rw [HQ.out]; omega
    · have hd : decide ((i : Int) < (m.length : Int) + 1) = false := decide_eq_false (by have := HN.out; omega)
      have HST := Lib.hid (bString_any w.heap.size w.heap.size _ wr HB.out hwz)
      have HTK : Hid ((letters m ++ [46]).take i = (letters m ++ [46]).take k) := Lib.hid (by
        have hl2 : (letters m ++ [46]).length = N := by simp [letters]; have := HN.out; omega
        rw [List.take_of_length_le (by omega), List.take_of_length_le (by omega)])
      go_wp2_with fail
      refine HST.out.mono ?_
      rintro q w5 ⟨rfl, hb5⟩
      have HB5 := Lib.hid (HBE.out.trans (hb5.mono (by omega)))
      clear hb5
      go_wp2_with fail
      go_ret
      exact ⟨by rw [HTK.out]; rfl, HB5.out⟩
set_option maxRecDepth 100000 in
set_option maxHeartbeats 4000000 in
theorem implMachineTrace_any (s : ByteArray) (n : Int) (w : World) (hm : s.size ≤ maxLen) :
    Calls Try.prog 16 #[.string s, .int .i64 n] w fun q w' => q = trE n (mcR s.data.toList) ∧ Below w.heap.size w w' := by
  by_cases hn : 0 ≤ n ∧ n ≤ 300
  · obtain ⟨k, rfl⟩ : ∃ k : Nat, n = (k : Int) := ⟨n.toNat, by omega⟩
    have HN := Lib.hid hn
    have hk : k ≤ 300 := by omega
    clear hn
    go_enter Try.func16, Try.ntmps16
    go_wp2_with fail
    refine (runText_any s _ hm).mono ?_
    rintro e w1 ⟨hb1, ⟨S, m, P, lo, mb, nb, sv, mv, vs, hres, rfl, hmi, hbd, hlo⟩ | ⟨hres, p, rfl⟩⟩
    · have HE : Hid (trE k (mcR s.data.toList) = .returned (.tuple #[.string ⟨((letters m ++ [46]).take k).toArray⟩, .bool true])) := Lib.hid (by rw [hres]; simp only [trE, if_pos HN.out, Int.toNat_natCast])
      have HT := Lib.hid (trace_any w1 P lo mb S m nb sv mv vs k hmi (mcR_ok hres).2 hk)
      have HB1 := Lib.hid hb1
      clear hmi hbd hres hb1
      go_wp2_with fail
      refine HT.out.mono ?_
      rintro q w2 ⟨rfl, hb2⟩
      have HB2 := Lib.hid (HB1.out.trans (hb2.mono hlo))
      clear hb2
      go_wp2_with fail
      go_ret2
      exact ⟨by rw [HE.out]; rfl, HB2.out⟩
    · have HE : Hid (trE k (mcR s.data.toList) = .returned (.tuple #[.string ⟨#[]⟩, .bool false])) := Lib.hid (by rw [hres]; rfl)
      clear hres
      go_wp2_with fail
      go_ret2
      exact ⟨by rw [HE.out]; rfl, hb1⟩
  · have HE : Hid (trE n (mcR s.data.toList) = .returned (.tuple #[.string ⟨#[]⟩, .bool false])) := Lib.hid (by
      cases hr : mcR s.data.toList with
      | none => rfl
      | some p => simp only [trE, if_neg hn])
    by_cases h0 : n < 0
    · clear hn
      go_enter Try.func16, Try.ntmps16
      go_wp2_with fail
      go_ret2
      exact ⟨by rw [HE.out]; rfl, Below.refl _ _⟩
    · have h1 : 300 < n := by omega
      clear hn
      go_enter Try.func16, Try.ntmps16
      go_wp2_with fail
      go_ret2
      exact ⟨by rw [HE.out]; rfl, Below.refl _ _⟩
end Go.Proofs.Ytljkmeloleeopaa
