/- The model makes a tree of a word and trees. -/
import Derived.Test.YtjcdclnaplojcaaGreatDoorF1
import Derived.Test.YtjcdclnaplojcaaGreatDoorO
import Derived.Test.YtjcdclnaplojcaaGreatDoorD
import Derived.Test.YtjcdclnaplojcaaGreatDoorH
import Derived.Laws.OwnMore
namespace Go.Proofs.YtjcdclnaplojcaaGreatDoor
set_option linter.unusedVariables false
open Go.RowKit

theorem setCell_size' (w : World) (a : Addr) (v : Value) : (w.setCell a v).heap.size = w.heap.size := by simp [World.setCell]
theorem VsAt.one' {w : World} {P : Nat → Prop} {ts : List Tr} {xs : List Value} (h : VsAt w P ts xs) : ∀ u ∈ xs, u.oneCell' = true := by
  induction ts generalizing xs with
  | nil => unfold VsAt at h; subst h; simp
  | cons t ts ih =>
    unfold VsAt at h
    obtain ⟨a, b, r, rfl, h1, h2⟩ := h
    obtain ⟨A, n, c, e⟩ := h1.shape
    simp at e
    obtain ⟨rfl, rfl⟩ := e
    intro u hu
    rcases List.mem_cons.1 hu with rfl | hu
    · rfl
    · rcases List.mem_cons.1 hu with rfl | hu
      · rfl
      · exact ih h2 u hu
theorem VsAt.cons' {w : World} {P : Nat → Prop} {t : Tr} {ts : List Tr} {a b : Value} {xs : List Value} (h1 : TAt w P t (.agg #[a, b])) (h2 : VsAt w P ts xs) : VsAt w P (t :: ts) (a :: b :: xs) := by
  unfold VsAt
  exact ⟨a, b, xs, rfl, h1, h2⟩

def LlPost (P : Nat → Prop) (hd : List UInt8) (ts : List Tr) (w : World) (e : Ending) (w' : World) : Prop :=
  ∃ A n c, e = .returned (.agg #[.string ⟨#[]⟩, .slice A n c]) ∧ TAt w' (fun b => P b ∨ (w.heap.size ≤ b ∧ b < w'.heap.size)) (.mk [] (.mk hd [] :: ts)) (.agg #[.string ⟨#[]⟩, .slice A n c]) ∧ Below w.heap.size w w'

set_option maxRecDepth 100000 in
theorem l1List_any (hd : List UInt8) (hhd : hd.length ≤ 8000) (ts : List Tr) (hts : ts.length ≤ 7000) (P : Nat → Prop) (g c : Nat) (xs : List Value) (w : World) (hg : g < w.heap.size) (hx : ∀ j u, xs[j]? = some u → w.cell? ⟨g, j, none⟩ = some u) (hv : VsAt w P ts xs) (hP : ∀ b, P b → b < w.heap.size) :
    Calls Tryz.prog 30 #[.string ⟨hd.toArray⟩, .slice (some ⟨g, 0, none⟩) ts.length c] w (LlPost P hd ts w) := by
  obtain ⟨i0, hinf, hz0, hzs, hzb⟩ := info_parts Tryz.infoTree
  have hxl : xs.length = ts.length * 2 := hv.length
  have hlit : ((w.alloc (.cells #[.string ⟨#[]⟩, .slice none 0 0] 51)).alloc (.cells #[.string ⟨hd.toArray⟩, .slice none 0 0] 51)).ownsRow (w.heap.size + 1) 51 2 (.slice (some ⟨w.heap.size + 1, 0, none⟩) 1 1) 1 [.string ⟨hd.toArray⟩, .slice none 0 0] := by
    have h := World.ownsRow_lit (base := w.heap.size + 1) (e := 51) (size := 2) (w.alloc (.cells #[.string ⟨#[]⟩, .slice none 0 0] 51)) #[.string ⟨hd.toArray⟩, .slice none 0 0] 1 (by simp) (by unfold maxLen; omega) rfl
    simpa using h
  have hnews : ∀ j u, xs[j]? = some u → ((w.alloc (.cells #[.string ⟨#[]⟩, .slice none 0 0] 51)).alloc (.cells #[.string ⟨hd.toArray⟩, .slice none 0 0] 51)).cell? ((⟨g, 0, none⟩ : Addr).add j) = some u := by
    intro j u hu
    rw [add_off, World.cell?_alloc_lt _ _ _ (by simp; omega), World.cell?_alloc_lt _ _ _ hg]
    exact hx j u hu
  have HX := Lib.hid hxl
  have HLIT := Lib.hid hlit
  have HNEWS := Lib.hid hnews
  have HV := Lib.hid hv
  have HP := Lib.hid hP
  have hrb : Hid (Blk (w.alloc (.cells #[.string ⟨#[]⟩, .slice none 0 0] 51)) w.heap.size 51 #[.string ⟨#[]⟩, .slice none 0 0]) := Lib.hid (Blk.new _ _ _)
  clear hxl hlit hnews hx hv hP
  go_enter Tryz.func30, Tryz.ntmps30
  go_wp2_with (first
    | (at_builtin
       refine wpList_append_own_at _ rfl (.tmp 7) (.tmp 8) 49 rfl (w.heap.size + 1) 51 i0 (.agg #[.string ⟨#[]⟩, .slice none 0 0]) 2 40 Tryz.underlying49 hinf hz0 hzs hzb rfl (by decide) (.slice (some ⟨w.heap.size + 1, 0, none⟩) 1 1) 1 [.string ⟨hd.toArray⟩, .slice none 0 0] rfl HLIT.out ⟨g, 0, none⟩ ts.length c xs rfl HX.out HNEWS.out HV.out.one' ?_ ?_ ?_ ?_
       · unfold maxLen; omega
       · omega
       · simp
       intro v2 w2 hown2 hg2 _ hat2
       have ho' := hown2
       rw [Nat.add_comm 1 ts.length] at ho'
       obtain ⟨g2, c2', hv2, hg2b⟩ := own_some ho'
       subst hv2
       have hz2 := hg2.size
       simp at hz2
       have hres := (hrb.out.alloc (.cells #[.string ⟨hd.toArray⟩, .slice none 0 0] 51)).grown hg2 (by simp [Value.ownBlock])
       have r0 := hres.cell 0
       have r1 := hres.cell 1
       have rf0 := hres.frozen 0
       have rf1 := hres.frozen 1
       have rl := hres.lt
       simp at r0 r1
       have HRES := Lib.hid hres
       have HO := Lib.hid ho'
       have HG2 := Lib.hid hg2
       clear hres hown2 hg2 ho' hat2)
    | fail)
  have hW : Blk ((w2.setCell ⟨w.heap.size, 0, none⟩ (.string ⟨#[]⟩)).setCell ⟨w.heap.size, 1, none⟩ (.slice (some ⟨g2, 0, none⟩) (ts.length + 1) c2')) w.heap.size 51 #[.string ⟨#[]⟩, .slice (some ⟨g2, 0, none⟩) (ts.length + 1) c2'] := res_set HRES.out _ _
  have g0 := hW.cell 0
  have g1 := hW.cell 1
  simp only [List.getElem?_toArray, List.getElem?_cons_zero, List.getElem?_cons_succ] at g0 g1
  refine bodyPost_ret (v := .agg #[.string ⟨#[]⟩, .slice (some ⟨g2, 0, none⟩) (ts.length + 1) c2']) (by simp [results, Tryz.results30, go_sem, g0, g1]) rfl ?_
  refine ⟨_, _, _, rfl, ?_, ?_⟩
  · have hf := ownsRow_far (ownsRow_far HO.out (a := ⟨w.heap.size, 0, none⟩) (by simp [Value.ownBlock]; omega) (.string ⟨#[]⟩)) (a := ⟨w.heap.size, 1, none⟩) (by simp [Value.ownBlock]; omega) (.slice (some ⟨g2, 0, none⟩) (ts.length + 1) c2')
    have hcells := hf.cells (g := g2) rfl
    have hlt2 := (hf.lt g2 rfl).2
    have hcap : ts.length + 1 ≤ c2' := by
      rcases HO.out.2 with ⟨h, _⟩ | ⟨g', cap', cur', hv', _, _, h3, _⟩
      · cases h
      · injection hv' with _ _ h4
        omega
    unfold TAt
    refine ⟨_, rfl, by simp, by simp; omega, .inr ⟨by simp, g2, c2', _, by simp, by simp; omega, .inr ⟨by omega, by simpa [setCell_size'] using hlt2⟩, fun j u hu => (by have hq := hcells j u hu; rw [add_off] at hq; exact hq), ?_⟩⟩
    refine VsAt.cons' (by unfold TAt; exact ⟨_, rfl, hhd, by simp, .inl ⟨rfl, rfl⟩⟩) (HV.out.mono fun b hb => ⟨.inl hb, fun o => ?_⟩)
    have hbw := HP.out b hb
    rw [World.cell?_setCell_other _ _ _ _ (by intro e; injection e with e; omega), World.cell?_setCell_other _ _ _ _ (by intro e; injection e with e; omega)]
    rw [World.cell?_of_block (w := (w.alloc (.cells #[.string ⟨#[]⟩, .slice none 0 0] 51)).alloc (.cells #[.string ⟨hd.toArray⟩, .slice none 0 0] 51)) (HG2.out.block b (by simp; omega) (by simp [Value.ownBlock]; omega)), World.cell?_alloc_lt _ _ _ (by simp; omega), World.cell?_alloc_lt _ _ _ hbw]
  · refine Below.setCell (p := ⟨w.heap.size, 1, none⟩) (Below.setCell (p := ⟨w.heap.size, 0, none⟩) ?_ (by simp) _) (by simp) _
    exact (((Below.refl _ _).alloc (Nat.le_refl _) _).alloc (by simp) _).grown HG2.out (by simp; omega) (fun k e => by simp [Value.ownBlock] at e; omega)
end Go.Proofs.YtjcdclnaplojcaaGreatDoor
