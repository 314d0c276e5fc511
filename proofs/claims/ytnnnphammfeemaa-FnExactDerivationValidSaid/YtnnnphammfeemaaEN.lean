/- The derivations of which a node is made, as the program gives them. -/
import Derived.Test.YtnnnphammfeemaaND
import Derived.Maps.AppendAt
import Derived.Deep.RegionHeld3
namespace Go.Proofs.Ytnnnphammfeemaa
set_option linter.unusedVariables false
set_option linter.unusedSimpArgs false
open Go.RowKit

theorem Try.infoDn' : (Try.prog.info? 30).map (fun i => (i.zero, i.size, i.bytes)) = some (some .nilIface, 1, 16) := by kernel_rfl
/-- The derivations of a node, as a list of its own. -/
def PtPost (xs : List Value) (w : World) (e : Ending) (w' : World) : Prop :=
  ∃ v, e = .returned v ∧ w'.ownsRow w.heap.size 30 1 v xs.length xs ∧ Below w.heap.size w w'
theorem row_new (w : World) (cs : Array Value) (h : cs.size ≤ maxLen) : (w.alloc (.cells cs 30)).ownsRow w.heap.size 30 1 (.slice (some ⟨w.heap.size, 0, none⟩) cs.size cs.size) cs.size cs.toList :=
  ⟨by simp, .inr ⟨w.heap.size, cs.size, cs, rfl, Nat.le_refl _, Blk.new w _ _, Nat.le_refl _, h, by simp, List.take_of_length_le (by simp)⟩⟩
theorem ownsRow_drew {w : World} {base e size n : Nat} {v : Value} {xs : List Value} (h : w.ownsRow base e size v n xs) : w.drew.ownsRow base e size v n xs := h

theorem parts_ax (b : Nat) (w : World) : Calls Try.prog 100 #[.pointer (some ⟨b, 0, none⟩)] w (PtPost [] w) := by
  go_enter Try.func100, Try.ntmps100
  go_wp2_with fail
  go_ret
  exact ⟨_, rfl, World.ownsRow_nil _ _ _ _, Below.refl _ _⟩
theorem parts_fun (b : Nat) (T : TypeId) (q : Nat) (w : World) (hk : Blk w b 75 #[.iface T (.pointer (some ⟨q, 0, none⟩))]) : Calls Try.prog 103 #[.pointer (some ⟨b, 0, none⟩)] w (PtPost [.iface T (.pointer (some ⟨q, 0, none⟩))] w) := by
  have c0 := hk.cell 0
  simp at c0
  have hlt := hk.lt
  clear hk
  go_enter Try.func103, Try.ntmps103
  go_wp2_with fail
  go_ret
  exact ⟨_, rfl, row_new w #[_] (by simp [maxLen]), (Below.refl _ _).alloc (Nat.le_refl _) _⟩
theorem parts_tfun (b : Nat) (T : TypeId) (q : Nat) (w : World) (hk : Blk w b 77 #[.iface T (.pointer (some ⟨q, 0, none⟩))]) : Calls Try.prog 106 #[.pointer (some ⟨b, 0, none⟩)] w (PtPost [.iface T (.pointer (some ⟨q, 0, none⟩))] w) := by
  have c0 := hk.cell 0
  simp at c0
  have hlt := hk.lt
  clear hk
  go_enter Try.func106, Try.ntmps106
  go_wp2_with fail
  go_ret
  exact ⟨_, rfl, row_new w #[_] (by simp [maxLen]), (Below.refl _ _).alloc (Nat.le_refl _) _⟩
theorem parts_hap (b : Nat) (T : TypeId) (q : Nat) (w : World) (hk : Blk w b 83 #[.iface T (.pointer (some ⟨q, 0, none⟩))]) : Calls Try.prog 112 #[.pointer (some ⟨b, 0, none⟩)] w (PtPost [.iface T (.pointer (some ⟨q, 0, none⟩))] w) := by
  have c0 := hk.cell 0
  simp at c0
  have hlt := hk.lt
  clear hk
  go_enter Try.func112, Try.ntmps112
  go_wp2_with fail
  go_ret
  exact ⟨_, rfl, row_new w #[_] (by simp [maxLen]), (Below.refl _ _).alloc (Nat.le_refl _) _⟩
theorem parts_tap (b : Nat) (T : TypeId) (q : Nat) (T' : TypeId) (q' : Nat) (w : World) (hk : Blk w b 86 #[.iface T (.pointer (some ⟨q, 0, none⟩)), .iface T' (.pointer (some ⟨q', 0, none⟩))]) :
    Calls Try.prog 115 #[.pointer (some ⟨b, 0, none⟩)] w (PtPost [.iface T (.pointer (some ⟨q, 0, none⟩)), .iface T' (.pointer (some ⟨q', 0, none⟩))] w) := by
  have c0 := hk.cell 0
  have c1 := hk.cell 1
  simp at c0 c1
  have hlt := hk.lt
  clear hk
  go_enter Try.func115, Try.ntmps115
  go_wp2_with fail
  go_region
  all_goals
    go_wp2
    go_ret
    refine ⟨_, rfl, ?_, by first | exact ((Below.refl _ _).drew).alloc (by simp) _ | exact ((Below.refl _ _).alloc (by simp) _).drew | exact (Below.refl _ _).alloc (by simp) _⟩
    first
      | exact row_new w #[_, _] (by simp [maxLen])
      | exact row_new w.drew #[_, _] (by simp [maxLen])
theorem add_off' (g o j : Nat) : (⟨g, o, none⟩ : Addr).add j = ⟨g, o + j, none⟩ := by unfold Addr.add; split <;> simp_all
theorem parts_app (b : Nat) (T : TypeId) (q : Nat) (ys : List Value) (g o n c : Nat) (hn : ys.length = n) (h8 : n ≤ 20000) (w : World) (hi : ∀ u ∈ ys, Ifc u) (hg : g < w.heap.size) (hc : ∀ j u, ys[j]? = some u → w.cell? ⟨g, o + j, none⟩ = some u) (hk : Blk w b 80 #[.iface T (.pointer (some ⟨q, 0, none⟩)), .slice (some ⟨g, o, none⟩) n c]) :
    Calls Try.prog 109 #[.pointer (some ⟨b, 0, none⟩)] w (PtPost (.iface T (.pointer (some ⟨q, 0, none⟩)) :: ys) w) := by
  obtain ⟨i0, hinf, hz0, hzs, hzb⟩ := info_parts Try.infoDn'
  have hlt := hk.lt
  have HC := Lib.hid hc
  have HI := Lib.hid hi
  have HN := Lib.hid hn
  have HB := Lib.hid hk
  have s0 : w.drew.cell? ⟨b, 0, none⟩ = some (.iface T (.pointer (some ⟨q, 0, none⟩))) ∧ w.drew.cell? ⟨b, 1, none⟩ = some (.slice (some ⟨g, o, none⟩) n c) := by
    have c0 := hk.drew.cell 0
    have c1 := hk.drew.cell 1
    simp at c0 c1
    exact ⟨c0, c1⟩
  clear hk hi hn hc
  go_enter Try.func109, Try.ntmps109
  go_wp2_with fail
  refine wp_region_held_drew (S := (fun w' => w'.cell? ⟨b, 0, none⟩ = some (.iface T (.pointer (some ⟨q, 0, none⟩))) ∧ w'.cell? ⟨b, 1, none⟩ = some (.slice (some ⟨g, o, none⟩) n c))) (by kernel_rfl) s0 (fun hHeld => ?_)
  refine wpAnyH_take (i := 0) (v := ?_) rfl (by kernel_rfl) (by kernel_rfl) (by kernel_rfl) (fun _ _ _ h => h) (Or.inl ⟨by kernel_rfl, ?_⟩) (by assumption) ?_
  rotate_left
  · intro w0 hS0; (try dsimp only at hS0); go_simp; (try with_reducible rfl)
  (try simp only [List.getElem_toArray, List.getElem_cons_zero]); (try go_frame)
  refine wpAnyH_take (i := 1) (v := ?_) rfl (by kernel_rfl) (by kernel_rfl) (by kernel_rfl) (fun _ _ _ h => h) (Or.inl ⟨by kernel_rfl, ?_⟩) (by assumption) ?_
  rotate_left
  · intro w0 hS0; (try dsimp only at hS0); go_simp; (try with_reducible rfl)
  (try simp only [List.getElem_toArray, List.getElem_cons_zero, List.getElem_cons_succ]); (try go_frame)
  refine wpAnyH_take (i := 2) (v := ?_) rfl (by kernel_rfl) (by kernel_rfl) (by kernel_rfl) (fun _ _ _ h => h) (Or.inl ⟨by kernel_rfl, ?_⟩) (by assumption) ?_
  rotate_left
  · intro w0 hS0; (try dsimp only at hS0); go_simp; (try with_reducible rfl)
  (try simp only [List.getElem_toArray, List.getElem_cons_zero, List.getElem_cons_succ]); (try go_frame)
  refine wpAnyH_take (i := 3) (v := ?_) rfl (by kernel_rfl) (by kernel_rfl) (by kernel_rfl) (fun _ _ _ h => h) (Or.inl ⟨by kernel_rfl, ?_⟩) (by assumption) ?_
  rotate_left
  · intro w0 hS0; (try dsimp only at hS0); go_simp; (try with_reducible rfl)
  (try simp only [List.getElem_toArray, List.getElem_cons_zero, List.getElem_cons_succ]); (try go_frame)
  refine wpAnyH_take (i := 5) (v := ?_) rfl (by kernel_rfl) (by kernel_rfl) (by kernel_rfl) (fun _ _ _ h => h) (Or.inl ⟨by kernel_rfl, ?_⟩) (by assumption) ?_
  rotate_left
  · intro w0 hS0; (try dsimp only at hS0); go_simp; (try with_reducible rfl)
  (try simp only [List.getElem_toArray, List.getElem_cons_zero, List.getElem_cons_succ]); (try go_frame)
  refine wpAnyH_take (i := 6) (v := ?_) rfl (by kernel_rfl) (by kernel_rfl) (by kernel_rfl) (fun _ _ _ h => h) (Or.inl ⟨by kernel_rfl, ?_⟩) (by assumption) ?_
  rotate_left
  · intro w0 hS0; (try dsimp only at hS0); go_simp; (try with_reducible rfl)
  (try simp only [List.getElem_toArray, List.getElem_cons_zero, List.getElem_cons_succ]); (try go_frame)
  refine wpAnyH_take (i := 7) (v := ?_) rfl (by kernel_rfl) (by kernel_rfl) (by kernel_rfl) (fun _ _ _ h => h) (Or.inl ⟨by kernel_rfl, ?_⟩) (by assumption) ?_
  rotate_left
  · intro w0 hS0; (try dsimp only at hS0); go_simp; (try with_reducible rfl)
  (try simp only [List.getElem_toArray, List.getElem_cons_zero, List.getElem_cons_succ]); (try go_frame)
  refine wpAnyH_take (i := 8) (v := ?_) rfl (by kernel_rfl) (by kernel_rfl) (by kernel_rfl) (fun _ _ _ h => h) (Or.inl ⟨by kernel_rfl, ?_⟩) (by assumption) ?_
  rotate_left
  · intro w0 hS0; (try dsimp only at hS0); go_simp; (try with_reducible rfl)
  (try simp only [List.getElem_toArray, List.getElem_cons_zero, List.getElem_cons_succ]); (try go_frame)
  refine wpAnyH_ready (rs := [4]) (by kernel_rfl) (by simp) ?_
  refine AllReadyH.cons rfl (fun K hK => ?_) AllReadyH.nil
  go_simp
  have k1 : Blk (w.alloc (.cells #[.iface T (.pointer (some ⟨q, 0, none⟩))] 30)).drew b 80 #[.iface T (.pointer (some ⟨q, 0, none⟩)), .slice (some ⟨g, o, none⟩) n c] := (HB.out.alloc _).drew
  have s1 : (w.alloc (.cells #[.iface T (.pointer (some ⟨q, 0, none⟩))] 30)).drew.cell? ⟨b, 0, none⟩ = some (.iface T (.pointer (some ⟨q, 0, none⟩))) ∧ (w.alloc (.cells #[.iface T (.pointer (some ⟨q, 0, none⟩))] 30)).drew.cell? ⟨b, 1, none⟩ = some (.slice (some ⟨g, o, none⟩) n c) := by
    have c0 := k1.cell 0
    have c1 := k1.cell 1
    simp at c0 c1
    exact ⟨c0, c1⟩
  refine hK.out _ _ s1 (fun hHeld => ?_)
  clear hK K
  (try simp only [List.getElem_toArray, List.getElem_cons_zero, List.getElem_cons_succ]); (try go_frame)
  have hrow : (w.alloc (.cells #[.iface T (.pointer (some ⟨q, 0, none⟩))] 30)).drew.ownsRow w.heap.size 30 1 (.slice (some ⟨w.heap.size, 0, none⟩) 1 1) 1 [.iface T (.pointer (some ⟨q, 0, none⟩))] := ownsRow_drew (row_new w #[_] (by simp [maxLen]))
  have hB1 : Below w.heap.size w (w.alloc (.cells #[.iface T (.pointer (some ⟨q, 0, none⟩))] 30)).drew := ((Below.refl _ _).alloc (by simp) _).drew
  have hlw : w.heap.size < (w.alloc (.cells #[.iface T (.pointer (some ⟨q, 0, none⟩))] 30)).drew.heap.size := by simp
  have HC1 : Hid (∀ j u, ys[j]? = some u → (w.alloc (.cells #[.iface T (.pointer (some ⟨q, 0, none⟩))] 30)).drew.cell? ⟨g, o + j, none⟩ = some u) := Lib.hid fun j u hu => (hB1.cell (p := ⟨g, o + j, none⟩) hg).trans (HC.out j u hu)
  generalize (w.alloc (.cells #[.iface T (.pointer (some ⟨q, 0, none⟩))] 30)).drew = w1 at hHeld k1 s1 hrow hB1 hlw HC1 ⊢
  refine wpAnyH_ready (rs := [9]) (by kernel_rfl) (by simp) ?_
  refine AllReadyH.cons rfl (fun K hK => ?_) AllReadyH.nil
  rw [if_pos (by kernel_rfl)]
  refine wp_append_own _ (.tmp 7) (.tmp 11) 60 rfl w.heap.size 30 i0 .nilIface 1 16 Try.underlying60 hinf hz0 hzs hzb rfl (by decide) (.slice (some ⟨w.heap.size, 0, none⟩) 1 1) 1 [.iface T (.pointer (some ⟨q, 0, none⟩))] rfl hrow ⟨g, o, none⟩ n c ys rfl (by rw [HN.out]; omega) (fun j u hu => by rw [add_off']; exact HC1.out j u hu) (fun u hu => by obtain ⟨T', b', rfl⟩ := HI.out u hu; rfl) (by unfold maxLen; omega) (by omega) (by omega) ?_
  intro v2 w2 hown2 hg2 _
  have hz2 := hg2.size
  have k2 := k1.grown hg2 (fun e => by simp [Value.ownBlock] at e; omega)
  have hB2 := hB1.grown hg2 (by omega) (fun q e => by simp [Value.ownBlock] at e; omega)
  have HO2 := Lib.hid hown2
  obtain ⟨A2, n2, rfl⟩ := own_shape hown2
  have s2 : w2.cell? ⟨b, 0, none⟩ = some (.iface T (.pointer (some ⟨q, 0, none⟩))) ∧ w2.cell? ⟨b, 1, none⟩ = some (.slice (some ⟨g, o, none⟩) n c) := by
    have c0 := k2.cell 0
    have c1 := k2.cell 1
    simp at c0 c1
    exact ⟨c0, c1⟩
  clear hown2 hg2
  refine hK.out _ _ s2 (fun hHeld => ?_)
  clear hK K
  (try simp only [List.getElem_toArray, List.getElem_cons_zero, List.getElem_cons_succ]); (try go_frame)
  refine wpAnyH_take (i := 10) (v := ?_) rfl (by kernel_rfl) (by kernel_rfl) (by kernel_rfl) (fun _ _ _ h => h) (Or.inl ⟨by kernel_rfl, ?_⟩) (by assumption) ?_
  rotate_left
  · intro w0 hS0; (try dsimp only at hS0); go_simp; (try with_reducible rfl)
  (try simp only [List.getElem_toArray, List.getElem_cons_zero, List.getElem_cons_succ]); (try go_frame)
  refine wpAnyH_done (by kernel_rfl) ?_ _
  go_wp2
  go_ret
  refine ⟨_, rfl, ?_, hB2⟩
  have e : (Value.iface T (.pointer (some ⟨q, 0, none⟩)) :: ys).length = 1 + n := by rw [List.length_cons, HN.out, Nat.add_comm]
  rw [e]
  exact HO2.out
end Go.Proofs.Ytnnnphammfeemaa
