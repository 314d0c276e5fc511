/- The model sorts texts, and makes bags of them. -/
import Derived.Test.YtmkjkoelpngicaaMG
namespace Go.Proofs.Ytmkjkoelpngicaa
set_option linter.unusedVariables false
open Go.RowKit

/-- A text is put into a sorted list. -/
def insT (x : List UInt8) : List (List UInt8) → List (List UInt8)
  | [] => [x]
  | y :: r => if x < y then x :: y :: r else y :: insT x r
theorem insT_perm (x : List UInt8) (l : List (List UInt8)) : (insT x l).Perm (x :: l) := by
  induction l with
  | nil => exact List.Perm.refl _
  | cons y r ih =>
    unfold insT
    split
    · exact List.Perm.refl _
    · exact (List.Perm.cons y ih).trans (List.Perm.swap x y r)
theorem insT_sorted (x : List UInt8) (l : List (List UInt8)) (h : l.Pairwise (fun a b => leB a b = true)) : (insT x l).Pairwise (fun a b => leB a b = true) := by
  induction l with
  | nil => simp [insT]
  | cons y r ih =>
    obtain ⟨h1, h2⟩ := List.pairwise_cons.1 h
    unfold insT
    split
    · rename_i hlt
      have hxy : leB x y = true := by
        simp only [leB, decide_eq_true_eq]
        exact List.le_of_lt hlt
      refine List.pairwise_cons.2 ⟨fun z hz => ?_, h⟩
      rcases List.mem_cons.1 hz with rfl | hz
      · exact hxy
      · exact leB_trans _ _ _ hxy (h1 z hz)
    · rename_i hlt
      have hyx : leB y x = true := (not_lt_leB _ _).1 hlt
      refine List.pairwise_cons.2 ⟨fun z hz => ?_, ih h2⟩
      rcases List.mem_cons.1 ((insT_perm x r).mem_iff.1 hz) with rfl | hz
      · exact hyx
      · exact h1 z hz
def isoT (l : List (List UInt8)) : List (List UInt8) := l.foldl (fun acc x => insT x acc) []
theorem isoT_snoc (l : List (List UInt8)) (x : List UInt8) : isoT (l ++ [x]) = insT x (isoT l) := by simp [isoT, List.foldl_append]
theorem isoT_srt (l : List (List UInt8)) : isoT l = srt l := by
  have key : ∀ (l acc : List (List UInt8)), acc.Pairwise (fun a b => leB a b = true) → (l.foldl (fun acc x => insT x acc) acc).Pairwise (fun a b => leB a b = true) ∧ (l.foldl (fun acc x => insT x acc) acc).Perm (acc ++ l) := by
    intro l
    induction l with
    | nil => intro acc h; exact ⟨h, by simp⟩
    | cons x r ih =>
      intro acc h
      obtain ⟨h1, h2⟩ := ih (insT x acc) (insT_sorted x acc h)
      refine ⟨h1, h2.trans ?_⟩
      refine ((insT_perm x acc).append_right r).trans ?_
      exact List.perm_middle.symm
  obtain ⟨h1, h2⟩ := key l [] List.Pairwise.nil
  exact (srt_eq l _ h1 h2.symm).symm
theorem insT_at (x : List UInt8) (l : List (List UInt8)) : ∀ (k : Nat) (y : List UInt8), l[k]? = some y → insT x (l.drop k) = if x < y then x :: l.drop k else y :: insT x (l.drop (k + 1)) := by
  intro k y h
  obtain ⟨hj, e⟩ := List.getElem?_eq_some_iff.1 h
  rw [List.drop_eq_getElem_cons hj, e]
  rfl
theorem ins_one (l : List (List UInt8)) : ∀ u ∈ l.map strV, u.oneCell' = true := by
  intro u hu
  obtain ⟨x, _, rfl⟩ := List.mem_map.1 hu
  rfl
theorem insT_length (x : List UInt8) (l : List (List UInt8)) : (insT x l).length = l.length + 1 := by rw [(insT_perm x l).length_eq]; rfl

set_option maxRecDepth 100000 in
set_option maxHeartbeats 4000000 in
theorem l3Insert_any (l : List (List UInt8)) (x : List UInt8) (base g c : Nat) (w : World) (hl : SRow w base (.slice (some ⟨g, 0, none⟩) l.length c) l) (hn : l.length ≤ 1000) (hs : ∀ y ∈ l, y.length ≤ 100000) (hx : x.length ≤ 100000) :
    Calls Try.prog 87 #[.slice (some ⟨g, 0, none⟩) l.length c, .string ⟨x.toArray⟩] w (LsPost (insT x l) w) := by
  obtain ⟨i0, hinf, hz0, hzs, hzb⟩ := info_parts Try.infoS'
  have hgl := (hl.lt g rfl).2
  have hcap : l.length ≤ c := by
    rcases hl.2 with ⟨h, _⟩ | ⟨g', cap, cur, hv, _, _, h1, _⟩
    · cases h
    · injection hv with _ _ h3
      rw [h3]
      exact h1
  have HL : Hid (∀ j u, (l.map strV)[j]? = some u → w.cell? ⟨g, j, none⟩ = some u) := Lib.hid fun j u hu => by
    have h1 := hl.cells (g := g) rfl j u hu
    rwa [add_off] at h1
  have HS := Lib.hid hs
  clear hl hs
  go_enter Try.func87, Try.ntmps87
  go_wp2_with fail
  have HMKA : Hid (∀ q, ((w.drewN q).alloc (.cells #[] 9)).ownsRow w.heap.size 9 1 (.slice (some ⟨w.heap.size, 0, none⟩) 0 0) 0 []) := Lib.hid fun q => World.ownsRow_made (w.drewN q) #[] 0 (Nat.le_refl _) (Nat.zero_le _) rfl
  have HB0A : Hid (∀ q, Below w.heap.size w ((w.drewN q).alloc (.cells #[] 9))) := Lib.hid fun q => (show Below w.heap.size w (w.drewN q) from ⟨rfl, rfl, rfl, Nat.le_refl _, fun _ _ => rfl⟩).alloc (Nat.le_refl _) _
  have HCEA : Hid (∀ q k j u, ((l.take k).map strV)[j]? = some u → ((w.drewN q).alloc (.cells #[] 9)).cell? ⟨g, j, none⟩ = some u) := Lib.hid fun q k j u hu => by
    rw [World.cell?_alloc_lt _ _ _ (show g < (w.drewN q).heap.size from hgl)]
    refine HL.out j u ?_
    rw [List.map_take] at hu
    rw [List.getElem?_take] at hu
    split at hu
    · exact hu
    · cases hu
  go_loopw [5] (fun i wr => ∃ (k q : Nat), k ≤ l.length ∧ i = .int .i64 k ∧ Hid (insT x l = l.take k ++ insT x (l.drop k)) ∧ wr = w.drewN q) (fun i _ => l.length - (intOf i).toNat)
  case atStart => exact ⟨0, 0, by omega, rfl, Lib.hid (by simp), rfl⟩
  case round =>
    obtain ⟨k, q, hk, rfl, HI, rfl⟩ := hrel
    by_cases hkl : k < l.length
    · obtain ⟨y, hy⟩ : ∃ y, l[k]? = some y := ⟨l[k], by simp⟩
      have hcell := HL.out k (.string ⟨y.toArray⟩) (by rw [List.getElem?_map, hy]; rfl)
      have HA := Lib.hid (insT_at x l k y hy)
      have hys := HS.out y (List.mem_of_getElem? hy)
      have HLS : Hid (∀ w, Calls Try.prog 86 #[.string ⟨x.toArray⟩, .string ⟨y.toArray⟩] w fun e w' => e = .returned (.bool (decide (x < y))) ∧ ∃ n, w' = w.drewN n) :=
        Lib.hid fun w => l3Less_any ⟨x.toArray⟩ ⟨y.toArray⟩ w (by simp [ByteArray.size, maxLen]; omega) (by simp [ByteArray.size, maxLen]; omega)
      have HTK := Lib.hid (show l.take (k + 1) = l.take k ++ [y] by rw [List.take_add_one, hy]; rfl)
      clear hy
      by_cases hlt : x < y
      · have hd : decide (x < y) = true := decide_eq_true hlt
        have HFIN : Hid (insT x l = l.take k ++ x :: l.drop k) := Lib.hid (by rw [HI.out, HA.out, if_pos hlt])
        have hck : k < c := by omega
        clear hlt
        go_wp2_with fail
        refine (HLS.out _).mono ?_
        rintro e w2 ⟨rfl, m, rfl⟩
        rw [World.drewN_drewN]
        have HMK := Lib.hid (HMKA.out (q + m))
        have HB0 := Lib.hid (HB0A.out (q + m))
        have HCE := Lib.hid (HCEA.out (q + m) k)
        clear HLS HA HTK HI
        go_wp2_with (first
         | (at_builtin
            refine wpList_append_own_at _ rfl (.tmp 22) (.tmp 25) 23 rfl w.heap.size 9 i0 (.string ⟨#[]⟩) 1 16 Try.underlying23 hinf hz0 hzs hzb rfl (by decide) (.slice (some ⟨w.heap.size, 0, none⟩) 0 0) 0 [] rfl HMK.out ⟨g, 0, none⟩ k c ((l.take k).map strV) rfl ?_ ?_ ?_ ?_ ?_ ?_ ?_
            · simp; try omega
            · intro j u hu
              rw [add_off]
              exact HCE.out j u hu
            · exact ins_one _
            · unfold maxLen; omega
            · omega
            · simp
            intro v1 w1 hown1 hg1 _ hat1
            simp only [Nat.zero_add, List.nil_append] at hown1
            have hz1 := hg1.size
            simp at hz1
            have HB1 := Lib.hid (show Below w.heap.size w w1 from HB0.out.grown hg1 (by simp) (fun z e => by simp [Value.ownBlock] at e; omega))
            have HC1 := Lib.hid (show ∀ j u, (l.map strV)[j]? = some u → w1.cell? ⟨g, j, none⟩ = some u from fun j u hu => by rw [HB1.out.cell (p := ⟨g, j, none⟩) hgl]; exact HL.out j u hu)
            have HO1 := Lib.hid hown1
            clear hg1 hat1 hown1)
         | (at_builtin
            refine wpList_append_own_at _ rfl (.tmp 27) (.tmp 29) 23 rfl w.heap.size 9 i0 (.string ⟨#[]⟩) 1 16 Try.underlying23 hinf hz0 hzs hzb rfl (by decide) v1 k ((l.take k).map strV) rfl (HO1.out.alloc _) ⟨w1.heap.size, 0, none⟩ 1 1 [.string ⟨x.toArray⟩] rfl rfl (cell_one_new _ _ _) ?_ ?_ ?_ ?_ ?_
            · intro u hu
              simp at hu
              subst hu
              rfl
            · unfold maxLen; omega
            · omega
            · simp; try omega
            intro v2 w2 hown2 hg2 _ hat2
            have hz2 := hg2.size
            simp at hz2
            have HB2 := Lib.hid ((HB1.out.alloc (by omega) _).grown hg2 (by simp; omega) (fun z e => (HO1.out.lt z e).1))
            have HC2 := Lib.hid (show ∀ j u, (l.map strV)[j]? = some u → w2.cell? ⟨g, j, none⟩ = some u from fun j u hu => by rw [HB2.out.cell (p := ⟨g, j, none⟩) hgl]; exact HL.out j u hu)
            have HO2 := Lib.hid hown2
            clear hg2 hat2 hown2)
         | (at_builtin
            refine wpList_append_own_at _ rfl (.tmp 31) (.tmp 34) 23 rfl w.heap.size 9 i0 (.string ⟨#[]⟩) 1 16 Try.underlying23 hinf hz0 hzs hzb rfl (by decide) v2 (k + 1) ((l.take k).map strV ++ [.string ⟨x.toArray⟩]) rfl HO2.out ⟨g, k, none⟩ (l.length - k) (c - k) ((l.drop k).map strV) rfl ?_ ?_ ?_ ?_ ?_ ?_ ?_
            · simp; try omega
            · intro j u hu
              have e : (⟨g, k, none⟩ : Addr).add j = ⟨g, k + j, none⟩ := by unfold Addr.add; split <;> simp_all
              rw [e]
              exact HC2.out (k + j) u (by rw [List.map_drop, List.getElem?_drop] at hu; exact hu)
            · exact ins_one _
            · unfold maxLen; omega
            · omega
            · omega
            intro v3 w3 hown3 hg3 _ hat3)
         | fail)
        have hsh : ∃ g6 c6, v3 = .slice (some ⟨g6, 0, none⟩) (k + 1 + (l.length - k)) c6 := by
          rcases hown3.2 with ⟨_, h⟩ | ⟨g6, c6, cur, hv, _⟩
          · omega
          · exact ⟨g6, c6, hv⟩
        obtain ⟨g6, c6, hv3⟩ := hsh
        subst hv3
        go_wp2_with fail
        go_ret
        have hlen : k + 1 + (l.length - k) = (insT x l).length := by rw [HFIN.out]; simp; try omega
        refine ⟨g6, c6, by rw [← hlen]; rfl, ?_, HB2.out.grown hg3 (by omega) (fun z e => (HO2.out.lt z e).1)⟩
        unfold SRow
        rw [← hlen, HFIN.out]
        have h := hown3
        simpa [strV] using h
      · have hd : decide (x < y) = false := decide_eq_false hlt
        have HNX : Hid (insT x l = l.take (k + 1) ++ insT x (l.drop (k + 1))) := Lib.hid (by rw [HI.out, HA.out, if_neg hlt, HTK.out]; simp)
        clear hlt
        go_wp2_with fail
        refine (HLS.out _).mono ?_
        rintro e w2 ⟨rfl, m, rfl⟩
        go_wp2_with fail
        go_roundw
        case rel => exact ⟨k + 1, q + m, by omega, by go_num, HNX, rfl⟩
        case measure => simp [intOf]; omega
    · have hke : k = l.length := by omega
      subst hke
      have HDR := Lib.hid (show l.drop l.length = [] by simp)
      have HFIN : Hid (insT x l = l.take l.length ++ x :: l.drop l.length) := Lib.hid (by rw [HI.out, HDR.out]; rfl)
      have HMK := Lib.hid (HMKA.out q)
      have HB0 := Lib.hid (HB0A.out q)
      have HCE := Lib.hid (HCEA.out q l.length)
      clear HI
      by_cases hce : c = l.length
      · subst hce
        go_wp2_with (first
         | (at_builtin
            refine wpList_append_own_at _ rfl (.tmp 22) (.tmp 25) 23 rfl w.heap.size 9 i0 (.string ⟨#[]⟩) 1 16 Try.underlying23 hinf hz0 hzs hzb rfl (by decide) (.slice (some ⟨w.heap.size, 0, none⟩) 0 0) 0 [] rfl HMK.out ⟨g, 0, none⟩ l.length l.length ((l.take l.length).map strV) rfl ?_ ?_ ?_ ?_ ?_ ?_ ?_
            · simp; try omega
            · intro j u hu
              rw [add_off]
              exact HCE.out j u hu
            · exact ins_one _
            · unfold maxLen; omega
            · omega
            · simp
            intro v1 w1 hown1 hg1 _ hat1
            simp only [Nat.zero_add, List.nil_append] at hown1
            have hz1 := hg1.size
            simp at hz1
            have HB1 := Lib.hid (show Below w.heap.size w w1 from HB0.out.grown hg1 (by simp) (fun z e => by simp [Value.ownBlock] at e; omega))
            have HC1 := Lib.hid (show ∀ j u, (l.map strV)[j]? = some u → w1.cell? ⟨g, j, none⟩ = some u from fun j u hu => by rw [HB1.out.cell (p := ⟨g, j, none⟩) hgl]; exact HL.out j u hu)
            have HO1 := Lib.hid hown1
            clear hg1 hat1 hown1)
         | (at_builtin
            refine wpList_append_own_at _ rfl (.tmp 27) (.tmp 29) 23 rfl w.heap.size 9 i0 (.string ⟨#[]⟩) 1 16 Try.underlying23 hinf hz0 hzs hzb rfl (by decide) v1 l.length ((l.take l.length).map strV) rfl (HO1.out.alloc _) ⟨w1.heap.size, 0, none⟩ 1 1 [.string ⟨x.toArray⟩] rfl rfl (cell_one_new _ _ _) ?_ ?_ ?_ ?_ ?_
            · intro u hu
              simp at hu
              subst hu
              rfl
            · unfold maxLen; omega
            · omega
            · simp; try omega
            intro v2 w2 hown2 hg2 _ hat2
            have hz2 := hg2.size
            simp at hz2
            have HB2 := Lib.hid ((HB1.out.alloc (by omega) _).grown hg2 (by simp; omega) (fun z e => (HO1.out.lt z e).1))
            have HC2 := Lib.hid (show ∀ j u, (l.map strV)[j]? = some u → w2.cell? ⟨g, j, none⟩ = some u from fun j u hu => by rw [HB2.out.cell (p := ⟨g, j, none⟩) hgl]; exact HL.out j u hu)
            have HO2 := Lib.hid hown2
            clear hg2 hat2 hown2)
         | (at_builtin
            refine wpList_append_own_at _ rfl (.tmp 31) (.tmp 34) 23 rfl w.heap.size 9 i0 (.string ⟨#[]⟩) 1 16 Try.underlying23 hinf hz0 hzs hzb rfl (by decide) v2 (l.length + 1) ((l.take l.length).map strV ++ [.string ⟨x.toArray⟩]) rfl HO2.out ⟨g, 0, none⟩ 0 0 ((l.drop l.length).map strV) rfl ?_ ?_ ?_ ?_ ?_ ?_ ?_
            · simp; try omega
            · intro j u hu
              rw [HDR.out] at hu
              simp at hu
            · exact ins_one _
            · unfold maxLen; omega
            · omega
            · omega
            intro v3 w3 hown3 hg3 _ hat3)
         | fail)
        have hsh : ∃ g6 c6, v3 = .slice (some ⟨g6, 0, none⟩) (l.length + 1 + 0) c6 := by
          rcases hown3.2 with ⟨_, h⟩ | ⟨g6, c6, cur, hv, _⟩
          · omega
          · exact ⟨g6, c6, hv⟩
        obtain ⟨g6, c6, hv3⟩ := hsh
        subst hv3
        go_wp2_with fail
        go_ret
        have hlen : l.length + 1 + 0 = (insT x l).length := by rw [HFIN.out]; simp; try omega
        refine ⟨g6, c6, by rw [← hlen]; rfl, ?_, HB2.out.grown hg3 (by omega) (fun z e => (HO2.out.lt z e).1)⟩
        unfold SRow
        rw [← hlen, HFIN.out]
        have h := hown3
        simpa [strV] using h
      · have hlc : l.length < c := by omega
        go_wp2_with (first
         | (at_builtin
            refine wpList_append_own_at _ rfl (.tmp 22) (.tmp 25) 23 rfl w.heap.size 9 i0 (.string ⟨#[]⟩) 1 16 Try.underlying23 hinf hz0 hzs hzb rfl (by decide) (.slice (some ⟨w.heap.size, 0, none⟩) 0 0) 0 [] rfl HMK.out ⟨g, 0, none⟩ l.length c ((l.take l.length).map strV) rfl ?_ ?_ ?_ ?_ ?_ ?_ ?_
            · simp; try omega
            · intro j u hu
              rw [add_off]
              exact HCE.out j u hu
            · exact ins_one _
            · unfold maxLen; omega
            · omega
            · simp
            intro v1 w1 hown1 hg1 _ hat1
            simp only [Nat.zero_add, List.nil_append] at hown1
            have hz1 := hg1.size
            simp at hz1
            have HB1 := Lib.hid (show Below w.heap.size w w1 from HB0.out.grown hg1 (by simp) (fun z e => by simp [Value.ownBlock] at e; omega))
            have HC1 := Lib.hid (show ∀ j u, (l.map strV)[j]? = some u → w1.cell? ⟨g, j, none⟩ = some u from fun j u hu => by rw [HB1.out.cell (p := ⟨g, j, none⟩) hgl]; exact HL.out j u hu)
            have HO1 := Lib.hid hown1
            clear hg1 hat1 hown1)
         | (at_builtin
            refine wpList_append_own_at _ rfl (.tmp 27) (.tmp 29) 23 rfl w.heap.size 9 i0 (.string ⟨#[]⟩) 1 16 Try.underlying23 hinf hz0 hzs hzb rfl (by decide) v1 l.length ((l.take l.length).map strV) rfl (HO1.out.alloc _) ⟨w1.heap.size, 0, none⟩ 1 1 [.string ⟨x.toArray⟩] rfl rfl (cell_one_new _ _ _) ?_ ?_ ?_ ?_ ?_
            · intro u hu
              simp at hu
              subst hu
              rfl
            · unfold maxLen; omega
            · omega
            · simp; try omega
            intro v2 w2 hown2 hg2 _ hat2
            have hz2 := hg2.size
            simp at hz2
            have HB2 := Lib.hid ((HB1.out.alloc (by omega) _).grown hg2 (by simp; omega) (fun z e => (HO1.out.lt z e).1))
            have HC2 := Lib.hid (show ∀ j u, (l.map strV)[j]? = some u → w2.cell? ⟨g, j, none⟩ = some u from fun j u hu => by rw [HB2.out.cell (p := ⟨g, j, none⟩) hgl]; exact HL.out j u hu)
            have HO2 := Lib.hid hown2
            clear hg2 hat2 hown2)
         | (at_builtin
            refine wpList_append_own_at _ rfl (.tmp 31) (.tmp 34) 23 rfl w.heap.size 9 i0 (.string ⟨#[]⟩) 1 16 Try.underlying23 hinf hz0 hzs hzb rfl (by decide) v2 (l.length + 1) ((l.take l.length).map strV ++ [.string ⟨x.toArray⟩]) rfl HO2.out ⟨g, l.length, none⟩ 0 (c - l.length) ((l.drop l.length).map strV) rfl ?_ ?_ ?_ ?_ ?_ ?_ ?_
            · simp; try omega
            · intro j u hu
              rw [HDR.out] at hu
              simp at hu
            · exact ins_one _
            · unfold maxLen; omega
            · omega
            · omega
            intro v3 w3 hown3 hg3 _ hat3)
         | fail)
        have hsh : ∃ g6 c6, v3 = .slice (some ⟨g6, 0, none⟩) (l.length + 1 + 0) c6 := by
          rcases hown3.2 with ⟨_, h⟩ | ⟨g6, c6, cur, hv, _⟩
          · omega
          · exact ⟨g6, c6, hv⟩
        obtain ⟨g6, c6, hv3⟩ := hsh
        subst hv3
        go_wp2_with fail
        go_ret
        have hlen : l.length + 1 + 0 = (insT x l).length := by rw [HFIN.out]; simp; try omega
        refine ⟨g6, c6, by rw [← hlen]; rfl, ?_, HB2.out.grown hg3 (by omega) (fun z e => (HO2.out.lt z e).1)⟩
        unfold SRow
        rw [← hlen, HFIN.out]
        have h := hown3
        simpa [strV] using h
end Go.Proofs.Ytmkjkoelpngicaa
