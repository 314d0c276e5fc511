/- The program's reading of parts. -/
import Derived.Test.YtjcdclnaplojcaaGreatDoorI
namespace Go.Proofs.YtjcdclnaplojcaaGreatDoor
set_option linter.unusedVariables false
open Go.RowKit

mutual
def PAt (w : World) (P : Nat → Prop) : Tr → Value → Prop
  | .mk a ps, v => ∃ b vp, v = .pointer (some ⟨b, 0, none⟩) ∧ P b ∧ w.cell? ⟨b, 0, none⟩ = some (.string ⟨a.toArray⟩) ∧ w.cell? ⟨b, 1, none⟩ = some vp ∧ a.length ≤ 8000 ∧ ps.length ≤ 8000 ∧
    ((ps = [] ∧ vp = .slice none 0 0) ∨
     (ps ≠ [] ∧ ∃ g cap xs, vp = .slice (some ⟨g, 0, none⟩) ps.length cap ∧ ps.length ≤ cap ∧ P g ∧ (∀ j u, xs[j]? = some u → w.cell? ⟨g, j, none⟩ = some u) ∧ QAt w P ps xs))
def QAt (w : World) (P : Nat → Prop) : List Tr → List Value → Prop
  | [], xs => xs = []
  | t :: ts, xs => ∃ x r, xs = x :: r ∧ PAt w P t x ∧ QAt w P ts r
end

section
variable {w w' : World} {P Q : Nat → Prop}

theorem PAt_QAt_mono (h : ∀ b, P b → Q b ∧ ∀ o, w'.cell? ⟨b, o, none⟩ = w.cell? ⟨b, o, none⟩) :
    (∀ t v, PAt w P t v → PAt w' Q t v) ∧ (∀ ts xs, QAt w P ts xs → QAt w' Q ts xs) := by
  refine ⟨fun t => Tr.rec (motive_1 := fun t => ∀ v, PAt w P t v → PAt w' Q t v) (motive_2 := fun ts => ∀ xs, QAt w P ts xs → QAt w' Q ts xs) ?_ ?_ ?_ t,
    fun ts => Tr.rec_1 (motive_1 := fun t => ∀ v, PAt w P t v → PAt w' Q t v) (motive_2 := fun ts => ∀ xs, QAt w P ts xs → QAt w' Q ts xs) ?_ ?_ ?_ ts⟩
  all_goals first
    | (intro a ps ih v hv
       unfold PAt at hv ⊢
       obtain ⟨b, vp, rfl, hb, hc0, hc1, hle, hle2, hv⟩ := hv
       refine ⟨b, vp, rfl, (h b hb).1, ((h b hb).2 0).trans hc0, ((h b hb).2 1).trans hc1, hle, hle2, ?_⟩
       rcases hv with hv | ⟨h1, g, cap, xs, rfl, h2, h3, h4, h5⟩
       · exact .inl hv
       · exact .inr ⟨h1, g, cap, xs, rfl, h2, (h g h3).1, fun j u hu => ((h g h3).2 j).trans (h4 j u hu), ih xs h5⟩)
    | (intro xs hx
       unfold QAt at hx ⊢
       exact hx)
    | (intro t ts iht ihts xs hx
       unfold QAt at hx ⊢
       obtain ⟨x, r, rfl, h1, h2⟩ := hx
       exact ⟨x, r, rfl, iht _ h1, ihts _ h2⟩)
theorem PAt.mono {t : Tr} {v : Value} (ht : PAt w P t v) (h : ∀ b, P b → Q b ∧ ∀ o, w'.cell? ⟨b, o, none⟩ = w.cell? ⟨b, o, none⟩) : PAt w' Q t v := (PAt_QAt_mono h).1 t v ht
theorem QAt.mono {ts : List Tr} {xs : List Value} (ht : QAt w P ts xs) (h : ∀ b, P b → Q b ∧ ∀ o, w'.cell? ⟨b, o, none⟩ = w.cell? ⟨b, o, none⟩) : QAt w' Q ts xs := (PAt_QAt_mono h).2 ts xs ht
theorem PAt.form {a : List UInt8} {ps : List Tr} {v : Value} (h : PAt w P (.mk a ps) v) : ∃ b vp, v = .pointer (some ⟨b, 0, none⟩) ∧ P b ∧ w.cell? ⟨b, 0, none⟩ = some (.string ⟨a.toArray⟩) ∧ w.cell? ⟨b, 1, none⟩ = some vp ∧ a.length ≤ 8000 ∧ ps.length ≤ 8000 ∧
    ((ps = [] ∧ vp = .slice none 0 0) ∨
     (ps ≠ [] ∧ ∃ g cap xs, vp = .slice (some ⟨g, 0, none⟩) ps.length cap ∧ ps.length ≤ cap ∧ P g ∧ (∀ j u, xs[j]? = some u → w.cell? ⟨g, j, none⟩ = some u) ∧ QAt w P ps xs)) := by
  unfold PAt at h; exact h
theorem PAt.shape {t : Tr} {v : Value} (h : PAt w P t v) : ∃ b, v = .pointer (some ⟨b, 0, none⟩) ∧ P b := by
  obtain ⟨a, ps⟩ := t
  obtain ⟨b, vp, rfl, hb, _⟩ := h.form
  exact ⟨b, rfl, hb⟩
theorem QAt.snoc {ts : List Tr} {t : Tr} {xs : List Value} {a : Value} (h : QAt w P ts xs) (ht : PAt w P t a) : QAt w P (ts ++ [t]) (xs ++ [a]) := by
  induction ts generalizing xs with
  | nil =>
    unfold QAt at h
    subst h
    simp only [List.nil_append]
    unfold QAt
    exact ⟨a, [], rfl, ht, by unfold QAt; rfl⟩
  | cons t' ts ih =>
    unfold QAt at h
    obtain ⟨a', r, rfl, h1, h2⟩ := h
    simp only [List.cons_append]
    unfold QAt
    exact ⟨a', r ++ [a], rfl, h1, ih h2⟩
theorem QAt.at_ {ts : List Tr} {xs : List Value} (h : QAt w P ts xs) : ∀ (i : Nat) (t : Tr), ts[i]? = some t → ∃ a, xs[i]? = some a ∧ PAt w P t a := by
  induction ts generalizing xs with
  | nil => intro i t ht; simp at ht
  | cons t ts ih =>
    unfold QAt at h
    obtain ⟨a, r, rfl, h1, h2⟩ := h
    intro i t' ht
    cases i with
    | zero => simp at ht; subst ht; exact ⟨a, rfl, h1⟩
    | succ i =>
      obtain ⟨a', h3, h4⟩ := ih h2 i t' (by simpa using ht)
      exact ⟨a', by simpa using h3, h4⟩
end

/-- What the reading of a part answers. -/
def PartPost (res : Option (Tr × List UInt8)) (s : ByteArray) (i rb : Nat) (w : World) (e : Ending) (w' : World) : Prop :=
  w.grownBy w' (some rb) ∧
  ((∃ t r v j, res = some (t, r) ∧ e = .returned (.tuple #[v, .bool true]) ∧ i < j ∧ j ≤ s.size ∧ s.data.toList.drop j = r ∧ Rdr w' rb s (j : Nat) ∧ PAt w' (fun b => w.heap.size ≤ b ∧ b < w'.heap.size) t v) ∨
   (res = none ∧ e = .returned (.tuple #[.pointer none, .bool false])))

/-- The list that is being read, in memory. -/
structure MK (rb : Nat) (w : World) (acc : List Tr) (vp : Value) (xs : List Value) (wr : World) : Prop where
  grown : w.grownBy wr (some rb)
  out : Blk wr w.heap.size 174 #[.string ⟨#[]⟩, vp]
  own : wr.ownsRow (w.heap.size + 1) 126 1 vp acc.length xs
  trees : QAt wr (fun b => w.heap.size + 1 ≤ b ∧ b < wr.heap.size ∧ some b ≠ vp.ownBlock) acc xs

theorem MK.more {rb : Nat} {w wr w' : World} {acc : List Tr} {vp : Value} {xs : List Value} (h : MK rb w acc vp xs wr) (hg : wr.grownBy w' (some rb)) (hrb : rb < w.heap.size) : MK rb w acc vp xs w' where
  grown := h.grown.trans hg
  out := h.out.grown hg (by intro e; injection e with e; omega)
  own := h.own.kept hg (by
    cases hv : vp.ownBlock with
    | none => exact .inl rfl
    | some q => right; intro e; have := h.own.lt q hv; injection e with e; omega)
  trees := h.trees.mono fun b ⟨h1, h2, h3⟩ => ⟨⟨h1, by have := hg.size; omega, h3⟩, fun o => World.cell?_of_block (w := wr) (hg.block b h2 (by intro e; injection e with e; omega))⟩

/-- What holds at the head of each round of the reading of parts. -/
structure MRel (s : ByteArray) (k rb : Nat) (res : Option (Tr × List UInt8)) (w : World) (i0 i' : Nat) (acc : List Tr) (vp : Value) (xs : List Value) (wr : World) : Prop where
  lo : i0 ≤ i'
  hi : i' ≤ s.size
  run : ∃ n, s.size - i' < n ∧ rdParts (rdPart k) n (s.data.toList.drop i') acc = res
  few : acc.length ≤ i'
  rdr : Rdr wr rb s i'
  old : rb < w.heap.size
  mem : MK rb w acc vp xs wr

theorem MK.step {rb : Nat} {w : World} {acc : List Tr} {vp : Value} {xs : List Value} {wr w1 w2 : World} {t : Tr} {a v2 : Value} {o1 : Obj}
    (h : MK rb w acc vp xs wr) (hg1 : wr.grownBy w1 (some rb)) (hrb : rb < w.heap.size) (ht : PAt w1 (fun q => wr.heap.size ≤ q ∧ q < w1.heap.size) t a)
    (hown2 : w2.ownsRow (w.heap.size + 1) 126 1 v2 (acc.length + 1) (xs ++ [a])) (hg2 : (w1.alloc o1).grownBy w2 vp.ownBlock)
    (hat2 : v2.ownBlock = vp.ownBlock ∨ v2.ownBlock = some (w1.alloc o1).heap.size) :
    MK rb w (acc ++ [t]) v2 (xs ++ [a]) (w2.setCell ⟨w.heap.size, 1, none⟩ v2) ∧ Blk w2 w.heap.size 174 #[.string ⟨#[]⟩, vp] ∧
    (∀ (T : TypeId) (cs : Array Value), Blk w1 rb T cs → Blk (w2.setCell ⟨w.heap.size, 1, none⟩ v2) rb T cs) := by
  have h1 := h.more hg1 hrb
  have hlt := h.own.lt
  have hz1 := hg1.size
  have hz2 := hg2.size
  have hz0 := h.out.lt
  simp only [World.size_alloc] at hz2 hat2
  have q2 : Blk w2 w.heap.size 174 #[.string ⟨#[]⟩, vp] := (h1.out.alloc _).grown hg2 (fun e => by have := hlt _ e.symm; omega)
  have hne : v2.ownBlock ≠ some w.heap.size := by
    rcases hat2 with h | h
    · rw [h]; intro e; have := hlt _ e; omega
    · rw [h]; intro e; simp at e; omega
  have hsz : (w2.setCell ⟨w.heap.size, 1, none⟩ v2).heap.size = w2.heap.size := by simp [World.setCell]
  have cellw : ∀ q o, w.heap.size + 1 ≤ q → q < w1.heap.size → some q ≠ vp.ownBlock → (w2.setCell ⟨w.heap.size, 1, none⟩ v2).cell? ⟨q, o, none⟩ = w1.cell? ⟨q, o, none⟩ := by
    intro q o h1 h2 h3
    rw [World.cell?_setCell_other _ _ _ _ (by intro e; injection e with e; omega)]
    rw [World.cell?_of_block (w := w1.alloc o1) (hg2.block q (by simp; omega) h3)]
    rw [World.cell?_alloc_lt _ _ _ h2]
  have newne : ∀ q, q < w1.heap.size → some q ≠ vp.ownBlock → some q ≠ v2.ownBlock := by
    intro q h1 h2
    rcases hat2 with h | h
    · rw [h]; exact h2
    · rw [h]; intro e; simp at e; omega
  have hlen : (acc ++ [t]).length = acc.length + 1 := by simp
  refine ⟨⟨?_, q2.set_ 1 v2, by rw [hlen]; exact ownsRow_far hown2 hne _, ?_⟩, q2, fun T cs hb => ?_⟩
  · refine ⟨hg2.os.trans h1.grown.os, hg2.tape.trans h1.grown.tape, hg2.output.trans h1.grown.output, by rw [hsz]; omega, fun k hk hkr => ?_⟩
    rw [Below.heap_setCell _ _ _ _ (by simp; omega), hg2.block k (by simp; omega) (fun e => by have := hlt _ e.symm; omega), Below.heap_alloc _ _ _ (by omega)]
    exact h1.grown.block k hk hkr
  · rw [hsz]
    refine QAt.snoc (h.trees.mono fun q ⟨h1, h2, h3⟩ => ⟨⟨h1, by omega, newne q (by omega) h3⟩, fun o => ?_⟩) (ht.mono fun q ⟨h1, h2⟩ => ⟨⟨by omega, by omega, newne q h2 (fun e => by have := hlt _ e.symm; omega)⟩, fun o => ?_⟩)
    · rw [cellw q o h1 (by omega) h3]
      exact World.cell?_of_block (w := wr) (hg1.block q h2 (by intro e; injection e with e; omega))
    · exact cellw q o (by omega) h2 (fun e => by have := hlt _ e.symm; omega)
  · exact (((hb.alloc _).grown hg2 (fun e => by have := hlt _ e.symm; omega)).far (by simp; omega) _)

/-- The list is read. -/
theorem MK.done {rb : Nat} {w : World} {acc : List Tr} {vp : Value} {xs : List Value} {wr : World} (h : MK rb w acc vp xs wr) (hpos : 0 < acc.length) (hfew : acc.length ≤ 8000) :
    PAt wr (fun b => w.heap.size ≤ b ∧ b < wr.heap.size) (.mk [] acc) (.pointer (some ⟨w.heap.size, 0, none⟩)) := by
  obtain ⟨g, cap, hvv, hg, hlt, hcap⟩ : ∃ g cap, vp = .slice (some ⟨g, 0, none⟩) acc.length cap ∧ w.heap.size + 1 ≤ g ∧ g < wr.heap.size ∧ acc.length ≤ cap := by
    rcases h.own.2 with ⟨_, h⟩ | ⟨g', cap', cur, hv', h1, h2, h3, _⟩
    · omega
    · exact ⟨g', cap', hv', h1, (Array.getElem?_eq_some_iff.1 h2).1, h3⟩
  have hcells := h.own.cells (g := g) (by rw [hvv]; rfl)
  have k0 := h.out.cell 0
  have k1 := h.out.cell 1
  simp at k0 k1
  unfold PAt
  refine ⟨w.heap.size, vp, rfl, ⟨Nat.le_refl _, h.out.lt⟩, k0, k1, by simp, hfew, .inr ⟨fun e => by rw [e] at hpos; simp at hpos, g, cap, xs, hvv, hcap, ⟨by omega, hlt⟩, fun j u hu => ?_, ?_⟩⟩
  · rw [← add_off]; exact hcells j u hu
  · exact h.trees.mono fun q ⟨h1, h2, _⟩ => ⟨⟨by omega, h2⟩, fun o => rfl⟩

theorem MRel.run_none {s : ByteArray} {k rb : Nat} {res : Option (Tr × List UInt8)} {w : World} {i0 i' : Nat} {acc : List Tr} {vp : Value} {xs : List Value} {wr : World} (hR : MRel s k rb res w i0 i' acc vp xs wr)
    (h : rdPart k (s.data.toList.drop i') = none) : res = none := by
  obtain ⟨n, hn, hrun⟩ := hR.run
  rw [← hrun]
  cases n with
  | zero => rfl
  | succ n => simp [rdParts, h]
theorem MRel.run_some {s : ByteArray} {k rb : Nat} {res : Option (Tr × List UInt8)} {w : World} {i0 i' : Nat} {acc : List Tr} {vp : Value} {xs : List Value} {wr : World} (hR : MRel s k rb res w i0 i' acc vp xs wr) {t : Tr} {j : Nat} (hij : i' < j) (hjs : j ≤ s.size)
    (h : rdPart k (s.data.toList.drop i') = some (t, s.data.toList.drop j)) :
    (∀ h : j < s.size, s[j] = 41 → res = some (.mk [] (acc ++ [t]), s.data.toList.drop (j + 1))) ∧
    ((∀ h : j < s.size, s[j] ≠ 41 ∧ s[j] ≠ 32) → res = none) ∧
    (∀ h : j < s.size, s[j] = 32 → ∃ n, s.size - (j + 1) < n ∧ rdParts (rdPart k) n (s.data.toList.drop (j + 1)) (acc ++ [t]) = res) := by
  obtain ⟨n, hn, hrun⟩ := hR.run
  rw [← hrun]
  cases n with
  | zero => omega
  | succ n =>
    refine ⟨fun hj h1 => ?_, fun h1 => ?_, fun hj h1 => ⟨n, by omega, ?_⟩⟩
    · rw [drop_at s j hj] at h
      simp [rdParts, h, h1]
    · by_cases hj : j < s.size
      · obtain ⟨h2, h3⟩ := h1 hj
        rw [drop_at s j hj] at h
        simp [rdParts, h, h2, h3]
      · have e : s.data.toList.drop j = [] := List.drop_of_length_le (by simp; omega)
        rw [e] at h
        simp [rdParts, h]
    · rw [drop_at s j hj] at h
      simp only [rdParts, h]
      rw [if_neg (by rw [h1]; decide), if_pos h1]

theorem Tryz.infoPtrPart : (Tryz.prog.info? 126).map (fun i => (i.zero, i.size, i.bytes)) = some (some (.pointer none), 1, 8) := by kernel_rfl

set_option maxRecDepth 100000 in
theorem readParts_any (s : ByteArray) (hs : s.size ≤ 8000) (k : Nat) (hk : 1 ≤ k) (hk2 : k ≤ 301) (rb i : Nat) (z : Int) (hz : z = 301 - k) (w : World) (hr : Rdr w rb s i) (hi : i ≤ s.size)
    (ih : ∀ (i : Nat) (w : World), i ≤ s.size → Rdr w rb s i → Calls Tryz.prog 118 #[.pointer (some ⟨rb, 0, none⟩), .int .i64 z] w (PartPost (rdPart k (s.data.toList.drop i)) s i rb w)) :
    Calls Tryz.prog 129 #[.pointer (some ⟨rb, 0, none⟩), .int .i64 z] w (PartPost (rdParts (rdPart k) (s.size - i + 1) (s.data.toList.drop i) []) s i rb w) := by
  have hzb : decide (300 < z) = false := by simp; omega
  have HR := Lib.hid hr
  have IH := Lib.hid ih
  have hrl := hr.lt
  have hz0 : 0 ≤ z := by omega
  have hz1 : z ≤ 300 := by omega
  clear ih hr hz hk
  go_enter Tryz.func129, Tryz.ntmps129
  go_wp2
  go_outline
  go_loopg [] (s.size - i + 1) (fun q wr => ∃ i' acc vp xs, i' + q = s.size + 1 ∧ MRel s k rb (rdParts (rdPart k) (s.size - i + 1) (s.data.toList.drop i) []) w i i' acc vp xs wr)
  case atStart =>
    refine ⟨i, [], .slice none 0 0, [], by omega, ⟨Nat.le_refl _, hi, ⟨_, by omega, rfl⟩, by simp, HR.out.alloc _, hrl, ⟨World.grownBy_alloc _ _ _, Blk.new _ _ _, World.ownsRow_nil _ _ _ _, by unfold QAt; rfl⟩⟩⟩
  case round =>
    obtain ⟨i', acc, vp, xs, hq, hR⟩ := hrel
    have hiq := hR.hi
    have HQ := Lib.hid hq
    clear hq
    obtain ⟨A0, n0, rfl⟩ := own_shape hR.mem.own
    go_wp2_with fail
    refine (IH.out i' _ hiq hR.rdr).mono ?_
    rintro e w1 ⟨hg1, hres⟩
    rcases hres with ⟨t, r, v, j, hrd, rfl, hj, hjs, hdr, hrd1, htr⟩ | ⟨hrd, rfl⟩
    · obtain ⟨b, rfl, hbP⟩ := htr.shape
      obtain ⟨i0, hinf, hz0', hzs, hzb'⟩ := info_parts Tryz.infoPtrPart
      have hfew := hR.few
      have hz1' := hg1.size
      have hk1 := hR.mem.more hg1 hrl
      have own1 := hk1.own
      have q1 := hk1.out
      have c0 := q1.cell 0
      have c1 := q1.cell 1
      have cf := q1.frozen
      have cl := q1.lt
      simp at c0 c1
      have hsm := Lib.hid (hR.run_some hj hjs (by rw [hrd, hdr]))
      have HTR := Lib.hid htr
      have HRD1 := Lib.hid hrd1
      clear htr hrd hdr hrd1
      go_wp2_with (first
        | (at_builtin
           refine wpList_append_own_at _ rfl (.tmp 25) (.tmp 27) 172 rfl (w.heap.size + 1) 126 i0 (.pointer none) 1 8 Tryz.underlying172 hinf hz0' hzs hzb' rfl (by decide) (.slice A0 acc.length n0) acc.length xs rfl (own1.alloc _) ⟨w1.heap.size, 0, none⟩ 1 1 [.pointer (some ⟨b, 0, none⟩)] rfl rfl (cell_one_new _ _ _) ?_ ?_ ?_ ?_ ?_
           · intro u hu
             simp at hu
             subst hu
             rfl
           · unfold maxLen; omega
           · omega
           · simp; omega
           intro v2 w2 hown2 hg2 _ hat2
           have hst := Lib.hid (hR.mem.step hg1 hrl HTR.out hown2 hg2 hat2)
           have q2 := hst.out.2.1
           obtain ⟨A2, n2, rfl⟩ := own_shape hown2
           have d2 := q2.cell 0
           have d3 := q2.cell 1
           have g1 := q2.frozen
           have gl := q2.lt
           simp at d2 d3)
        | fail)
      obtain ⟨hm3, _, hrr⟩ := hst.out
      have hr3 := hrr _ _ HRD1.out
      have HM3 := Lib.hid hm3
      have HR3 := Lib.hid hr3
      clear hm3 hrr hr3 d2 d3 g1 c0 c1 cf
      by_cases h41 : ∃ h : j < s.size, s[j] = 41
      · obtain ⟨hjl, h41⟩ := h41
        have H41 := Lib.hid h41
        clear h41
        refine (takeN_yes s j 41 41 rfl rb _ HR3.out hs hjl H41.out).mono ?_
        rintro e w4 ⟨rfl, hg4, hr4⟩
        have HR4 := Lib.hid hr4
        clear hr4
        go_wp2_with fail
        go_ret2
        exact ⟨HM3.out.grown.trans hg4, .inl ⟨_, _, _, j + 1, hsm.out.1 hjl H41.out, rfl, by have := hR.lo; omega, by omega, rfl, HR4.out, (HM3.out.more hg4 hrl).done (by simp) (by simp; omega)⟩⟩
      · have H41 := Lib.hid (fun h : j < s.size => fun e : s[j] = 41 => h41 ⟨h, e⟩)
        clear h41
        refine (takeN_no s j 41 41 rfl rb _ HR3.out hs hjs H41.out).mono ?_
        rintro e w4 ⟨rfl, hg4, hr4⟩
        have HR4 := Lib.hid hr4
        clear hr4
        go_wp2_with fail
        by_cases h32 : ∃ h : j < s.size, s[j] = 32
        · obtain ⟨hjl, h32⟩ := h32
          have H32 := Lib.hid h32
          clear h32
          refine (takeN_yes s j 32 32 rfl rb _ HR4.out hs hjl H32.out).mono ?_
          rintro e w5 ⟨rfl, hg5, hr5⟩
          have HR5 := Lib.hid hr5
          clear hr5
          go_wp2_with fail
          go_roundg (s.size - j)
          case rel =>
            obtain ⟨n, hn, hrun⟩ := hsm.out.2.2 hjl H32.out
            exact ⟨j + 1, acc ++ [t], _, _, by omega, ⟨by have := hR.lo; omega, by omega, ⟨n, hn, hrun⟩, by simp; omega, HR5.out, hrl, (HM3.out.more hg4 hrl).more hg5 hrl⟩⟩
          case measure => have := HQ.out; omega
        · have H32 := Lib.hid (fun h : j < s.size => fun e : s[j] = 32 => h32 ⟨h, e⟩)
          clear h32
          refine (takeN_no s j 32 32 rfl rb _ HR4.out hs hjs H32.out).mono ?_
          rintro e w5 ⟨rfl, hg5, hr5⟩
          clear hr5
          go_wp2_with fail
          go_ret2
          exact ⟨(HM3.out.grown.trans hg4).trans hg5, .inr ⟨hsm.out.2.1 (fun h => ⟨H41.out h, H32.out h⟩), rfl⟩⟩
    · have hnone := Lib.hid (hR.run_none hrd)
      have hgf := hR.mem.grown.trans hg1
      go_wp2
      go_ret2
      exact ⟨hgf, .inr ⟨hnone.out, rfl⟩⟩
end Go.Proofs.YtjcdclnaplojcaaGreatDoor
