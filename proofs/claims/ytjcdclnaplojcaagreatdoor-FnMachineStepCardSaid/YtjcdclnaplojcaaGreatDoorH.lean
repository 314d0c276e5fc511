/- strings.Clone gives the same bytes, in memory of its own. -/
import Derived.Test.YtjcdclnaplojcaaGreatDoorB
import Derived.Lib.BufferWrite
import Derived.Lib.UnsafeStr
namespace Go.Proofs.YtjcdclnaplojcaaGreatDoor
set_option linter.unusedVariables false
open Go.RowKit

theorem wpList_copy_str {P : Program} {w : World} {ops : Array Oper} {rest : List Oper} {o : Oper} {a : Act} {Q : Exit → Act → World → Prop} (hgd : o.guard = none) (d x : Operand) (dT sT elem : TypeId)
    (ho : o.op = .call { callee := .builtin .copy, args := #[d, x], argTypes := #[dT, sT] }) (g dLen dCap : Nat) (s : ByteArray) (cur : Array Value) (t : TypeId) (hd : a.eval d = .slice (some ⟨g, 0, none⟩) dLen dCap) (hx : a.eval x = .string s)
    (hu : P.underlying dT = some (.slice elem)) (hs : (P.info? elem).map (·.size) = some 1) (hg : w.heap[g]? = some (.cells cur t (0, 0))) (hle : s.size ≤ dLen) (hfit : cur.size = s.size)
    (h : ∀ w', Hid (w'.heap[g]? = some (.cells (Lib.byteCells s.data.toList).toArray t (0, 0))) → w.grownBy w' (some g) → wpList P ops Q rest (a.put o.dst (goInt s.size)) w') : wpList P ops Q (o :: rest) a w := by
  refine wpList_plain hgd fun K hK => ?_
  have hr := Lib.run_copy_row_string (P := P) w dT sT o.type elem g 0 dLen dCap s cur t hu hs hg hle (by omega)
  unfold Oper.wp execOp
  simp only [ho, resolve, invoke, builtin, Sem.run_bind, Sem.run_pure, Result.andThen_ok, List.map_toArray, List.map_cons, List.map_nil, hd, hx, hr]
  refine hK _ _ (h _ (Lib.hid ?_) ⟨rfl, rfl, rfl, by simp, fun k _ hk => setRow_other w g k _ (fun e => hk (by simp [e]))⟩)
  rw [setRow_heap w g cur _ t _ hg]
  simp
  omega

theorem add_off (g j : Nat) : (⟨g, 0, none⟩ : Addr).add j = ⟨g, j, none⟩ := by unfold Addr.add; split <;> simp_all

theorem wpList_unsafe_str {P : Program} {w : World} {ops : Array Oper} {rest : List Oper} {o : Oper} {a : Act} {Q : Exit → Act → World → Prop} (hgd : o.guard = none) (p n : Operand) (pt it e : TypeId)
    (ho : o.op = .call { callee := .builtin .unsafeString, args := #[p, n], argTypes := #[pt, it] }) (g : Nat) (s : ByteArray) (t : TypeId) (hp : a.eval p = .pointer (some ⟨g, 0, none⟩)) (hn : a.eval n = .int .i64 s.size)
    (hu : P.underlying pt = some (.pointer e)) (hc : P.cellsOf e = 1) (hg : w.heap[g]? = some (.cells (Lib.byteCells s.data.toList).toArray e (0, 0))) (h0 : 0 < s.size) (h63 : s.size ≤ 9223372036854775807)
    (h : wpList P ops Q rest (a.put o.dst (.string s)) (w.freeze ⟨g, 0, none⟩ s.size)) : wpList P ops Q (o :: rest) a w := by
  refine wpList_plain hgd fun K hK => ?_
  have hsz : s.size = s.data.toList.length := Lib.size_eq s
  have hr := Lib.run_unsafeString_row (P := P) w pt it o.type e hu hc g (Lib.byteCells s.data.toList).toArray.size (by simp only [World.shape?, hg]) s.data.toList (fun e0 => by rw [e0] at hsz; rw [hsz] at h0; exact Nat.lt_irrefl 0 h0) (by rw [List.size_toArray, Lib.byteCells_length]; exact Nat.le_refl _) (by rw [← hsz]; exact h63) (fun j x hj => by
    rw [add_off, cell_of_row w g j _ e (0, 0) hg]
    rw [List.getElem?_toArray, Lib.byteCells, List.getElem?_map, hj]
    rfl)
  unfold Oper.wp execOp
  rw [hsz] at hn
  simp only [ho, resolve, invoke, builtin, Sem.run_bind, Sem.run_pure, Result.andThen_ok, List.map_toArray, List.map_cons, List.map_nil, hp, hn, hr]
  rw [← hsz]
  exact hK _ _ h

theorem Tryz.infoByte : (Tryz.prog.info? 5).map (fun i => (i.zero, i.size, i.bytes)) = some (some (.int .u8 0), 1, 1) := by kernel_rfl
theorem Tryz.cellsByte : Tryz.prog.cellsOf 5 = 1 := by kernel_rfl

theorem own_cur {w : World} {base e n g cap : Nat} {xs : List Value} (h : w.ownsRow base e 1 (.slice (some ⟨g, 0, none⟩) n cap) n xs) (hn : 0 < n) : ∃ cur, w.heap[g]? = some (.cells cur e (0, 0)) ∧ cur.size = cap := by
  rcases h.2 with ⟨h, _⟩ | ⟨g', cap', cur, hv, _, hc, _, _, hs, _⟩
  · cases h
  · injection hv with h1 _ h3
    injection h1 with h1
    injection h1 with h1
    subst h1 h3
    exact ⟨cur, hc, by simpa using hs⟩
set_option maxRecDepth 100000 in
theorem clone_any (s : ByteArray) (w : World) (hm : s.size ≤ 8000) :
    Calls Tryz.prog 141 #[.string s] w fun e w' => e = .returned (.string s) ∧ Below w.heap.size w w' := by
  obtain ⟨i0, hinf, hz0, hzs, hzb⟩ := info_parts Tryz.infoByte
  by_cases h0 : s.size = 0
  · have hb : ((s.size : Int) == 0) = true := beq_iff_eq.2 (by omega)
    have he : s = ⟨#[]⟩ := by
      apply WideShapes.bytes_inj
      have h1 : s.data.toList.length = 0 := (Lib.size_eq s).symm.trans h0
      exact List.eq_nil_of_length_eq_zero h1
    subst he
    go_enter Tryz.func141, Tryz.ntmps141
    go_wp2
    go_ret
    exact ⟨rfl, Below.refl _ _⟩
  · have hb : ((s.size : Int) == 0) = false := beq_eq_false_iff_ne.2 (by omega)
    have hps : 0 < s.size := by omega
    clear h0
    go_enter Tryz.func141, Tryz.ntmps141
    go_wp2_with (first
      | (refine wpList_make_full _ rfl _ _ 22 rfl w.heap.size 5 i0 (.int .u8 0) 1 Tryz.underlying22 hinf hz0 hzs .i64 .i64 s.size s.size s.size rfl rfl rfl rfl (by rw [hzb]; omega) (by unfold maxLen; omega) (Nat.le_refl _) ?_
         intro w1 hown1 hg1
         obtain ⟨cur, hcur, hcs⟩ := own_cur hown1 hps)
      | (with_reducible refine wpList_copy_str rfl (.tmp 10) (.tmp 11) 22 9 5 rfl w.heap.size s.size s.size s cur 5 rfl rfl Tryz.underlying22 ?c1 hcur ?c2 ?c3 ?_
         case c1 => rw [hinf, Option.map_some, hzs]
         case c2 => exact Nat.le_refl _
         case c3 => omega
         intro w2 hw2 hg2)
      | (with_reducible refine wpList_unsafe_str rfl (.tmp 14) (.tmp 16) 170 3 5 rfl w.heap.size s 5 rfl rfl Tryz.underlying170 Tryz.cellsByte hw2.out hps ?c4 ?_
         case c4 => omega))
    go_ret
    refine ⟨rfl, Lib.below_freeze (p := ⟨w.heap.size, 0, none⟩) ?_ (Nat.le_refl _) _⟩
    exact ((Below.refl _ _).grown hg1 (Nat.le_refl _) (by simp)).grown hg2 hg1.size (fun k e => by simp at e; omega)

theorem stringsClone_any (s : ByteArray) (w : World) (hm : s.size ≤ 8000) :
    Calls Tryz.prog 137 #[.string s] w fun e w' => e = .returned (.string s) ∧ Below w.heap.size w w' := by
  go_enter Tryz.func137, Tryz.ntmps137
  go_wp2_with fail
  refine (clone_any s _ hm).mono ?_
  rintro e w1 ⟨rfl, hb⟩
  go_wp2_with fail
  go_ret
  exact ⟨rfl, hb⟩
end Go.Proofs.YtjcdclnaplojcaaGreatDoor
