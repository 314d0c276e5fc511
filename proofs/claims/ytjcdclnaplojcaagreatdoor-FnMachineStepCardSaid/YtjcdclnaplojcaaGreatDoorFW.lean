/- The model adds a name to a list. -/
import Derived.Test.YtjcdclnaplojcaaGreatDoorP
import Derived.Test.YtjcdclnaplojcaaGreatDoorH
import Derived.Test.YtjcdclnaplojcaaGreatDoorS0
namespace Go.Proofs.YtjcdclnaplojcaaGreatDoor
set_option linter.unusedVariables false
open Go.RowKit

theorem own_some {w : World} {base e size n : Nat} {v : Value} {xs : List Value} (h : w.ownsRow base e size v (n + 1) xs) : ∃ g c, v = .slice (some ⟨g, 0, none⟩) (n + 1) c ∧ base ≤ g := by
  rcases h.2 with ⟨_, h0⟩ | ⟨g, cap, cur, hv, hb, _⟩
  · omega
  · exact ⟨g, cap, hv, hb⟩
theorem str_one (l : List (List UInt8)) : ∀ u ∈ l.map strV, u.oneCell' = true := by
  intro u hu
  obtain ⟨x, _, rfl⟩ := List.mem_map.1 hu
  rfl

def LwPost (l : List (List UInt8)) (w : World) (e : Ending) (w' : World) : Prop :=
  ∃ g c, e = .returned (.slice (some ⟨g, 0, none⟩) l.length c) ∧ SRow w' w.heap.size (.slice (some ⟨g, 0, none⟩) l.length c) l ∧ Below w.heap.size w w'

set_option maxRecDepth 100000 in
theorem l1With_any (l : List (List UInt8)) (x : List UInt8) (b1 g c : Nat) (w : World) (hl : SRow w b1 (.slice (some ⟨g, 0, none⟩) l.length c) l) (hn : l.length ≤ 9000) :
    Calls Tryz.prog 58 #[.slice (some ⟨g, 0, none⟩) l.length c, .string ⟨x.toArray⟩] w (LwPost (l ++ [x]) w) := by
  obtain ⟨i0, hinf, hz0, hzs, hzb⟩ := info_parts Tryz.infoStr
  have HL := Lib.hid hl
  clear hl
  go_enter Tryz.func58, Tryz.ntmps58
  go_wp2_with (first
    | (at_builtin
       refine wpList_append_own_at _ rfl (.tmp 5) (.tmp 6) 55 rfl w.heap.size 9 i0 (.string ⟨#[]⟩) 1 16 Tryz.underlying55 hinf hz0 hzs hzb rfl (by decide) (.slice (some ⟨w.heap.size, 0, none⟩) 0 0) 0 [] rfl (World.ownsRow_made w #[] 0 (Nat.le_refl _) (Nat.zero_le _) rfl) ⟨g, 0, none⟩ l.length c (l.map strV) rfl ?_ ?_ ?_ ?_ ?_ ?_ ?_
       · simp
       · intro j u hu
         rw [add_off]
         have h1 := HL.out.cells (g := g) rfl j u hu
         rw [add_off] at h1
         have h2 := HL.out.lt g rfl
         rw [World.cell?_alloc_lt _ _ _ h2.2]
         exact h1
       · exact str_one l
       · unfold maxLen; omega
       · omega
       · simp
       intro v1 w1 hown1 hg1 _ hat1
       simp only [Nat.zero_add, List.nil_append] at hown1
       have hz1 := hg1.size
       have hB1 : Below w.heap.size w w1 := ((Below.refl _ _).alloc (Nat.le_refl _) _).grown hg1 (by simp) (fun k e => by simp [Value.ownBlock] at e; omega))
    | (at_builtin
       refine wpList_append_own_at _ rfl (.tmp 7) (.tmp 9) 55 rfl w.heap.size 9 i0 (.string ⟨#[]⟩) 1 16 Tryz.underlying55 hinf hz0 hzs hzb rfl (by decide) v1 l.length (l.map strV) rfl (hown1.alloc _) ⟨w1.heap.size, 0, none⟩ 1 1 [.string ⟨x.toArray⟩] rfl rfl (cell_one_new _ _ _) ?_ ?_ ?_ ?_ ?_
       · intro u hu
         simp at hu
         subst hu
         rfl
       · unfold maxLen; omega
       · omega
       · simp at hz1 ⊢; omega
       intro v2 w2 hown2 hg2 _ hat2)
    | fail)
  obtain ⟨g2, c2, rfl, hgb⟩ := own_some hown2
  go_wp2
  go_ret
  refine ⟨g2, c2, by simp, ?_, ?_⟩
  · unfold SRow
    rw [List.length_append, List.map_append]
    exact hown2
  · simp at hz1
    exact (hB1.alloc (by omega) _).grown hg2 (by simp; omega) (fun k e => (hown1.lt k e).1)
end Go.Proofs.YtjcdclnaplojcaaGreatDoor
