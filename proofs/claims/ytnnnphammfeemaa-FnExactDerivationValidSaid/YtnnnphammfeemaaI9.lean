/- The model's reading of derivations. -/
import Derived.Test.YtnnnphammfeemaaI7
namespace Go.Proofs.Ytnnnphammfeemaa
set_option linter.unusedVariables false
open Go.RowKit

/-- What is kept while the text that was read is looked at: its own block b, the block r of the result, the tree if there is one. -/
structure VKeep (w : World) (P : Nat → Prop) (o : Option Tr) (r b : Nat) (x : ByteArray) (A : Option Addr) (n c : Nat) (rx ry : Value) (w' : World) : Prop where
  res : Blk w' r 26 #[rx, ry]
  own : Blk w' b 26 #[.string x, .slice A n c]
  tree : ∀ t, o = some t → TAt w' P t (.agg #[.string x, .slice A n c])
  all : ∀ q, P q → q < w'.heap.size
  below : Below w.heap.size w w'
  le : w.heap.size ≤ w'.heap.size
section
variable {w w' w2 : World} {P : Nat → Prop} {o : Option Tr} {t : Tr} {r b : Nat} {x : ByteArray} {A : Option Addr} {n c : Nat} {rx ry : Value}
theorem VKeep.drew (h : VKeep w P o r b x A n c rx ry w') : VKeep w P o r b x A n c rx ry w'.drew := ⟨h.res, h.own, fun t e => (h.tree t e).mono fun _ hb => ⟨hb, fun _ => rfl⟩, h.all, h.below.drew, h.le⟩
theorem VKeep.more (h : VKeep w P o r b x A n c rx ry w') (hb : Below w'.heap.size w' w2) : VKeep w P o r b x A n c rx ry w2 :=
  ⟨h.res.below hb h.res.lt, h.own.below hb h.own.lt, fun t e => (h.tree t e).below hb h.all, fun q hq => by have := h.all q hq; have := hb.size; omega, h.below.trans (hb.mono h.le), by have := h.le; have := hb.size; omega⟩
theorem VKeep.s (h : VKeep w P o r b x A n c rx ry w') : w'.cell? ⟨b, 0, none⟩ = some (.string x) ∧ w'.cell? ⟨b, 1, none⟩ = some (.slice A n c) ∧ ∃ rx ry, VKeep w P o r b x A n c rx ry w' := by
  have c0 := h.own.cell 0
  have c1 := h.own.cell 1
  simp at c0 c1
  exact ⟨c0, c1, rx, ry, h⟩
theorem VKeep.put (h : VKeep w P o r b x A n c rx ry w') (hr : w.heap.size ≤ r) (hb : b ≠ r) (hP : ∀ q, P q → q ≠ r) (sx sy : Value) : VKeep w P o r b x A n c sx sy ((w'.setCell ⟨r, 0, none⟩ sx).setCell ⟨r, 1, none⟩ sy) := by
  have e : ∀ q, q ≠ r → ((w'.setCell ⟨r, 0, none⟩ sx).setCell ⟨r, 1, none⟩ sy).heap[q]? = w'.heap[q]? := fun q hq => (Below.heap_setCell _ _ _ _ (by simpa using hq)).trans (Below.heap_setCell _ _ _ _ (by simpa using hq))
  refine ⟨res_set h.res _ _, (e b hb).trans h.own, fun t ht => (h.tree t ht).mono fun q hq => ⟨hq, fun o => ?_⟩, fun q hq => ?_, (h.below.setCell hr _).setCell hr _, ?_⟩
  · rw [World.cell?_setCell_other _ _ _ _ (by intro z; injection z with z; exact hP q hq z.symm), World.cell?_setCell_other _ _ _ _ (by intro z; injection z with z; exact hP q hq z.symm)]
  · have := h.all q hq; simpa [World.setCell] using this
  · have := h.le; simpa [World.setCell] using this
theorem VKeep.kd (h : VKeep w P o r b x A n c rx ry w') (y : List UInt8) (q : Bool) (hq : (rdKind y).isSome = q) : Calls Try.prog 14 #[.string ⟨y.toArray⟩] w' fun e w2 => e = .returned (.bool q) ∧ VKeep w P o r b x A n c rx ry w2 :=
  (l2Kind_any y w').mono fun _ _ ⟨he, hb⟩ => ⟨by rw [he, hq], by rw [hb]; exact h⟩
theorem VKeep.dv (k : Bool) (h : VKeep w P (some t) r b x A n c rx ry w') (hl : (wrTr t).length ≤ 1000000) (ha : trAtoms t ≤ 10000) (q : Bool) (hq : isDv k t = q) : Calls Try.prog 15 #[.string ⟨(kdT k).toArray⟩, .agg #[.string x, .slice A n c]] w' fun e w2 => e = .returned (.bool q) ∧ VKeep w P (some t) r b x A n c rx ry w2 :=
  (l4Is_any k t _ w' P (h.tree t rfl) h.all hl ha).mono fun _ _ ⟨he, hb⟩ => ⟨by rw [he, hq], h.more hb⟩
theorem VKeep.no (k : Bool) (h : VKeep w P (some t) r b x A n c rx ry w') (hd : isDv k t = true) (hn : dvN t ≤ 100000) : Calls Try.prog 11 #[.agg #[.string x, .slice A n c]] w' fun e w2 => e = .returned (.int .i64 (dvN t)) ∧ VKeep w P (some t) r b x A n c rx ry w2 :=
  (l4Nodes_any k t hd _ w' P (h.tree t rfl) h.all hn).mono fun _ _ ⟨he, hb⟩ => ⟨he, h.more hb⟩
theorem VKeep.shut {rd : List UInt8 → Option Tr} {s : ByteArray} (h : VKeep w P (some t) r b x A n c rx ry w') (hP : ∀ q, P q → w.heap.size ≤ q) {q : Bool} (hq : rd s.data.toList = if q = true then some t else none) :
    TrRet rd s w (.returned (.tuple #[.agg #[.string x, .slice A n c], .bool q])) w' := by
  refine ⟨h.below, ?_⟩
  cases q
  · exact .inr ⟨by simpa using hq, _, _, _, _, rfl⟩
  · exact .inl ⟨t, _, by simpa using hq, rfl, (h.tree t rfl).mono fun p hp => ⟨⟨hP p hp, h.all p hp⟩, fun _ => rfl⟩⟩
end
set_option maxRecDepth 100000 in
set_option maxHeartbeats 8000000 in
theorem l4Read_any (x : List UInt8) (s : ByteArray) (w : World) (hm : s.size ≤ maxLen) :
    Calls Try.prog 9 #[.string ⟨x.toArray⟩, .string s] w (TrRet (rdDv x) s w) := by
  go_enter Try.func9, Try.ntmps9
  go_wp2_with fail
  refine (l1Parse_any s _ hm).mono ?_
  rintro e w1 ⟨hb1, hres⟩
  have hr := (Blk.new w 26 #[.string ⟨#[]⟩, .slice none 0 0]).below hb1 (by simp)
  have hlt := hr.lt
  have hB : Below w.heap.size w w1 := ((Below.refl _ _).alloc (Nat.le_refl _) _).trans (hb1.mono (by simp))
  rcases hres with ⟨t, v, hrd, rfl, htr⟩ | ⟨hrd, xb, A, n, c, rfl⟩
  · obtain ⟨A, n, c, rfl⟩ := htr.shape
    have hk : VKeep w (fun b => w.heap.size + 1 ≤ b ∧ b < w1.heap.size) (some t) w.heap.size w1.heap.size ⟨t.atom.toArray⟩ A n c (.string ⟨#[]⟩) (.slice none 0 0) (w1.alloc (.cells #[.string ⟨t.atom.toArray⟩, .slice A n c] 26)) :=
      ⟨hr.alloc _, Blk.new _ _ _, fun t' e => by injection e with e; subst e; exact ((htr.mono (Q := fun b => w.heap.size + 1 ≤ b ∧ b < w1.heap.size) fun q hq => ⟨by simpa using hq, fun _ => rfl⟩).alloc (fun q hq => hq.2) _), fun q hq => by simp; omega, hB.alloc (by omega) _, by simp; omega⟩
    have hok := rdText_ok _ _ hrd
    have ha : trAtoms t ≤ 10000 := by omega
    have hlen : (wrTr t).length ≤ 1000000 := by rw [rdText_text _ _ hrd]; omega
    cases hkx : rdKind x with
    | none =>
      have hq : rdDv x s.data.toList = if (false : Bool) = true then some t else none := by unfold rdDv; rw [hkx]; rfl
      have CKD : Hid (∀ w' rx ry, VKeep w (fun b => w.heap.size + 1 ≤ b ∧ b < w1.heap.size) (some t) w.heap.size w1.heap.size ⟨t.atom.toArray⟩ A n c rx ry w' → Calls Try.prog 14 #[.string ⟨x.toArray⟩] w' fun e w2 => e = .returned (.bool false) ∧ VKeep w (fun b => w.heap.size + 1 ≤ b ∧ b < w1.heap.size) (some t) w.heap.size w1.heap.size ⟨t.atom.toArray⟩ A n c rx ry w2) := Lib.hid fun w' rx ry h => h.kd x false (by rw [hkx]; rfl)
      have HEND : Hid (∀ w', VKeep w (fun b => w.heap.size + 1 ≤ b ∧ b < w1.heap.size) (some t) w.heap.size w1.heap.size ⟨t.atom.toArray⟩ A n c (.string ⟨t.atom.toArray⟩) (.slice A n c) w' → TrRet (rdDv x) s w (.returned (.tuple #[.agg #[.string ⟨t.atom.toArray⟩, .slice A n c], .bool false])) w') := Lib.hid fun w' h => h.shut (fun q hq => by omega) hq
      clear hrd htr hok hq hkx
      go_wp2_with fail
      have hk0 := hk.drew
      have hlt := hk0.own.lt
      refine wp_region_held_drew (S := (fun w' => w'.cell? ⟨w1.heap.size, 0, none⟩ = some (.string ⟨t.atom.toArray⟩) ∧ w'.cell? ⟨w1.heap.size, 1, none⟩ = some (.slice A n c) ∧ ∃ rx ry, VKeep w (fun b => w.heap.size + 1 ≤ b ∧ b < w1.heap.size) (some t) w.heap.size w1.heap.size ⟨t.atom.toArray⟩ A n c rx ry w')) (by kernel_rfl) (hk0.s) (fun hHeld => ?_)
      generalize (w1.alloc (.cells #[.string ⟨t.atom.toArray⟩, .slice A n c] 26)).drew = wd at hk0 hlt hHeld ⊢
      clear hk
      refine wpAnyH_take (i := 0) (v := ?_) rfl (by kernel_rfl) (by kernel_rfl) (by kernel_rfl) (fun _ _ _ h => h) (Or.inl ⟨by kernel_rfl, ?_⟩) (by assumption) ?_
      rotate_left
      · intro w0 hS0; (try dsimp only at hS0); go_simp; (try with_reducible rfl)
      (try simp only [List.getElem_toArray, List.getElem_cons_zero]); (try go_frame)
      refine wpAnyH_take (i := 1) (v := ?_) rfl (by kernel_rfl) (by kernel_rfl) (by kernel_rfl) (fun _ _ _ h => h) (Or.inl ⟨by kernel_rfl, ?_⟩) (by assumption) ?_
      rotate_left
      · intro w0 hS0; (try dsimp only at hS0); go_simp; (try with_reducible rfl)
      (try simp only [List.getElem_toArray, List.getElem_cons_zero, List.getElem_cons_succ]); (try go_frame)
      refine wpAnyH_take (i := 2) (v := ?_) rfl (by kernel_rfl) (by kernel_rfl) (by kernel_rfl) (fun _ _ _ h => h) (Or.inl ⟨by kernel_rfl, ?_⟩) (by assumption) ?_
      rotate_left
      · intro w0 hS0; (try dsimp only at hS0); go_simp; (try with_reducible rfl)
      (try simp only [List.getElem_toArray, List.getElem_cons_zero, List.getElem_cons_succ]); (try go_frame)
      refine wpAnyH_take (i := 3) (v := ?_) rfl (by kernel_rfl) (by kernel_rfl) (by kernel_rfl) (fun _ _ _ h => h) (Or.inl ⟨by kernel_rfl, ?_⟩) (by assumption) ?_
      rotate_left
      · intro w0 hS0; (try dsimp only at hS0); go_simp; (try with_reducible rfl)
      (try simp only [List.getElem_toArray, List.getElem_cons_zero, List.getElem_cons_succ]); (try go_frame)
      refine wpAnyH_ready (rs := [4]) (by kernel_rfl) (by simp) ?_
      refine AllReadyH.cons rfl (fun K hK => ?_) AllReadyH.nil
      · go_simp
        go_at_call 14
        with_reducible refine (CKD.out _ _ _ hk0).mono ?_
        rintro e u1 ⟨rfl, hk1⟩
        go_wp2_with fail
        refine hK.out _ _ (hk1.s) (fun hHeld => ?_)
        clear hK K
        (try simp only [List.getElem_toArray, List.getElem_cons_zero, List.getElem_cons_succ]); (try go_frame)
        refine wpAnyH_take (i := 5) (v := ?_) rfl (by kernel_rfl) (by kernel_rfl) (by kernel_rfl) (fun _ _ _ h => h) (Or.inl ⟨by kernel_rfl, ?_⟩) (by assumption) ?_
        rotate_left
        · intro w0 hS0; (try dsimp only at hS0); go_simp; (try with_reducible rfl)
        (try simp only [List.getElem_toArray, List.getElem_cons_zero, List.getElem_cons_succ]); (try go_frame)
        refine wpAnyH_take (i := 6) (v := ?_) rfl (by kernel_rfl) (by kernel_rfl) (by kernel_rfl) (fun _ _ _ h => h) (Or.inl ⟨by kernel_rfl, ?_⟩) (by assumption) ?_
        rotate_left
        · intro w0 hS0; (try dsimp only at hS0); go_simp; (try with_reducible rfl)
        (try simp only [List.getElem_toArray, List.getElem_cons_zero, List.getElem_cons_succ]); (try go_frame)
        refine wpAnyH_take (i := 7) (v := undef) rfl (by kernel_rfl) (by kernel_rfl) (by kernel_rfl) (fun _ _ _ h => h) (Or.inr ⟨by kernel_rfl, rfl⟩) (by assumption) ?_
        (try simp only [List.getElem_toArray, List.getElem_cons_zero, List.getElem_cons_succ]); (try go_frame)
        refine wpAnyH_take (i := 8) (v := undef) rfl (by kernel_rfl) (by kernel_rfl) (by kernel_rfl) (fun _ _ _ h => h) (Or.inr ⟨by kernel_rfl, rfl⟩) (by assumption) ?_
        (try simp only [List.getElem_toArray, List.getElem_cons_zero, List.getElem_cons_succ]); (try go_frame)
        refine wpAnyH_take (i := 9) (v := undef) rfl (by kernel_rfl) (by kernel_rfl) (by kernel_rfl) (fun _ _ _ h => h) (Or.inr ⟨by kernel_rfl, rfl⟩) (by assumption) ?_
        (try simp only [List.getElem_toArray, List.getElem_cons_zero, List.getElem_cons_succ]); (try go_frame)
        refine wpAnyH_take (i := 10) (v := ?_) rfl (by kernel_rfl) (by kernel_rfl) (by kernel_rfl) (fun _ _ _ h => h) (Or.inl ⟨by kernel_rfl, ?_⟩) (by assumption) ?_
        rotate_left
        · intro w0 hS0; (try dsimp only at hS0); go_simp; (try with_reducible rfl)
        (try simp only [List.getElem_toArray, List.getElem_cons_zero, List.getElem_cons_succ]); (try go_frame)
        refine wpAnyH_take (i := 11) (v := ?_) rfl (by kernel_rfl) (by kernel_rfl) (by kernel_rfl) (fun _ _ _ h => h) (Or.inl ⟨by kernel_rfl, ?_⟩) (by assumption) ?_
        rotate_left
        · intro w0 hS0; (try dsimp only at hS0); go_simp; (try with_reducible rfl)
        (try simp only [List.getElem_toArray, List.getElem_cons_zero, List.getElem_cons_succ]); (try go_frame)
        refine wpAnyH_take (i := 12) (v := undef) rfl (by kernel_rfl) (by kernel_rfl) (by kernel_rfl) (fun _ _ _ h => h) (Or.inr ⟨by kernel_rfl, rfl⟩) (by assumption) ?_
        (try simp only [List.getElem_toArray, List.getElem_cons_zero, List.getElem_cons_succ]); (try go_frame)
        refine wpAnyH_take (i := 13) (v := undef) rfl (by kernel_rfl) (by kernel_rfl) (by kernel_rfl) (fun _ _ _ h => h) (Or.inr ⟨by kernel_rfl, rfl⟩) (by assumption) ?_
        (try simp only [List.getElem_toArray, List.getElem_cons_zero, List.getElem_cons_succ]); (try go_frame)
        refine wpAnyH_take (i := 14) (v := undef) rfl (by kernel_rfl) (by kernel_rfl) (by kernel_rfl) (fun _ _ _ h => h) (Or.inr ⟨by kernel_rfl, rfl⟩) (by assumption) ?_
        (try simp only [List.getElem_toArray, List.getElem_cons_zero, List.getElem_cons_succ]); (try go_frame)
        refine wpAnyH_take (i := 15) (v := ?_) rfl (by kernel_rfl) (by kernel_rfl) (by kernel_rfl) (fun _ _ _ h => h) (Or.inl ⟨by kernel_rfl, ?_⟩) (by assumption) ?_
        rotate_left
        · intro w0 hS0; (try dsimp only at hS0); go_simp; (try with_reducible rfl)
        (try simp only [List.getElem_toArray, List.getElem_cons_zero, List.getElem_cons_succ]); (try go_frame)
        refine wpAnyH_ready (rs := [16]) (by kernel_rfl) (by simp) ?_
        refine AllReadyH.cons rfl (fun K hK => ?_) AllReadyH.nil
        · have r0 := hk1.res.cell 0
          have r1 := hk1.res.cell 1
          simp at r0 r1
          have rf := hk1.res.frozen
          have rl := hk1.res.lt
          have hk2 := hk1.put (by omega) (by omega) (fun q hq => by omega) (.string ⟨t.atom.toArray⟩) (.slice A n c)
          go_simp
          refine hK.out _ _ (hk2.s) (fun hHeld => ?_)
          clear hK K r0 r1 rf rl
          (try simp only [List.getElem_toArray, List.getElem_cons_zero, List.getElem_cons_succ]); (try go_frame)
          refine wpAnyH_take (i := 17) (v := ?_) rfl (by kernel_rfl) (by kernel_rfl) (by kernel_rfl) (fun _ _ _ h => h) (Or.inl ⟨by kernel_rfl, ?_⟩) (by assumption) ?_
          rotate_left
          · intro w0 hS0; (try dsimp only at hS0); go_simp; (try with_reducible rfl)
          (try simp only [List.getElem_toArray, List.getElem_cons_zero, List.getElem_cons_succ]); (try go_frame)
          refine wpAnyH_done (by kernel_rfl) ?_ _
          go_wp2
          refine bodyPost_ret (ret_tree Try.results9 _ _ _ _ _ rfl hk2.res) rfl ?_
          exact HEND.out _ hk2
    | some k =>
      have hxk : x = kdT k := rdKind_some x k hkx
      cases hd : isDv k t with
      | false =>
        have hq : rdDv x s.data.toList = if (false : Bool) = true then some t else none := by unfold rdDv; rw [hkx, hrd]; simp [hd]
        have CKD : Hid (∀ w' rx ry, VKeep w (fun b => w.heap.size + 1 ≤ b ∧ b < w1.heap.size) (some t) w.heap.size w1.heap.size ⟨t.atom.toArray⟩ A n c rx ry w' → Calls Try.prog 14 #[.string ⟨x.toArray⟩] w' fun e w2 => e = .returned (.bool true) ∧ VKeep w (fun b => w.heap.size + 1 ≤ b ∧ b < w1.heap.size) (some t) w.heap.size w1.heap.size ⟨t.atom.toArray⟩ A n c rx ry w2) := Lib.hid fun w' rx ry h => h.kd x true (by rw [hkx]; rfl)
        have CDV : Hid (∀ w' rx ry, VKeep w (fun b => w.heap.size + 1 ≤ b ∧ b < w1.heap.size) (some t) w.heap.size w1.heap.size ⟨t.atom.toArray⟩ A n c rx ry w' → Calls Try.prog 15 #[.string ⟨x.toArray⟩, .agg #[.string ⟨t.atom.toArray⟩, .slice A n c]] w' fun e w2 => e = .returned (.bool false) ∧ VKeep w (fun b => w.heap.size + 1 ≤ b ∧ b < w1.heap.size) (some t) w.heap.size w1.heap.size ⟨t.atom.toArray⟩ A n c rx ry w2) := Lib.hid fun w' rx ry h => by rw [hxk]; exact h.dv k hlen ha false hd
        have HEND : Hid (∀ w', VKeep w (fun b => w.heap.size + 1 ≤ b ∧ b < w1.heap.size) (some t) w.heap.size w1.heap.size ⟨t.atom.toArray⟩ A n c (.string ⟨t.atom.toArray⟩) (.slice A n c) w' → TrRet (rdDv x) s w (.returned (.tuple #[.agg #[.string ⟨t.atom.toArray⟩, .slice A n c], .bool false])) w') := Lib.hid fun w' h => h.shut (fun q hq => by omega) hq
        clear hrd htr hok hq hkx hxk hd
        go_wp2_with fail
        have hk0 := hk.drew
        have hlt := hk0.own.lt
        refine wp_region_held_drew (S := (fun w' => w'.cell? ⟨w1.heap.size, 0, none⟩ = some (.string ⟨t.atom.toArray⟩) ∧ w'.cell? ⟨w1.heap.size, 1, none⟩ = some (.slice A n c) ∧ ∃ rx ry, VKeep w (fun b => w.heap.size + 1 ≤ b ∧ b < w1.heap.size) (some t) w.heap.size w1.heap.size ⟨t.atom.toArray⟩ A n c rx ry w')) (by kernel_rfl) (hk0.s) (fun hHeld => ?_)
        generalize (w1.alloc (.cells #[.string ⟨t.atom.toArray⟩, .slice A n c] 26)).drew = wd at hk0 hlt hHeld ⊢
        clear hk
        refine wpAnyH_take (i := 0) (v := ?_) rfl (by kernel_rfl) (by kernel_rfl) (by kernel_rfl) (fun _ _ _ h => h) (Or.inl ⟨by kernel_rfl, ?_⟩) (by assumption) ?_
        rotate_left
        · intro w0 hS0; (try dsimp only at hS0); go_simp; (try with_reducible rfl)
        (try simp only [List.getElem_toArray, List.getElem_cons_zero]); (try go_frame)
        refine wpAnyH_take (i := 1) (v := ?_) rfl (by kernel_rfl) (by kernel_rfl) (by kernel_rfl) (fun _ _ _ h => h) (Or.inl ⟨by kernel_rfl, ?_⟩) (by assumption) ?_
        rotate_left
        · intro w0 hS0; (try dsimp only at hS0); go_simp; (try with_reducible rfl)
        (try simp only [List.getElem_toArray, List.getElem_cons_zero, List.getElem_cons_succ]); (try go_frame)
        refine wpAnyH_take (i := 2) (v := ?_) rfl (by kernel_rfl) (by kernel_rfl) (by kernel_rfl) (fun _ _ _ h => h) (Or.inl ⟨by kernel_rfl, ?_⟩) (by assumption) ?_
        rotate_left
        · intro w0 hS0; (try dsimp only at hS0); go_simp; (try with_reducible rfl)
        (try simp only [List.getElem_toArray, List.getElem_cons_zero, List.getElem_cons_succ]); (try go_frame)
        refine wpAnyH_take (i := 3) (v := ?_) rfl (by kernel_rfl) (by kernel_rfl) (by kernel_rfl) (fun _ _ _ h => h) (Or.inl ⟨by kernel_rfl, ?_⟩) (by assumption) ?_
        rotate_left
        · intro w0 hS0; (try dsimp only at hS0); go_simp; (try with_reducible rfl)
        (try simp only [List.getElem_toArray, List.getElem_cons_zero, List.getElem_cons_succ]); (try go_frame)
        refine wpAnyH_ready (rs := [4]) (by kernel_rfl) (by simp) ?_
        refine AllReadyH.cons rfl (fun K hK => ?_) AllReadyH.nil
        · go_simp
          go_at_call 14
          with_reducible refine (CKD.out _ _ _ hk0).mono ?_
          rintro e u1 ⟨rfl, hk1⟩
          go_wp2_with fail
          refine hK.out _ _ (hk1.s) (fun hHeld => ?_)
          clear hK K
          (try simp only [List.getElem_toArray, List.getElem_cons_zero, List.getElem_cons_succ]); (try go_frame)
          refine wpAnyH_take (i := 5) (v := ?_) rfl (by kernel_rfl) (by kernel_rfl) (by kernel_rfl) (fun _ _ _ h => h) (Or.inl ⟨by kernel_rfl, ?_⟩) (by assumption) ?_
          rotate_left
          · intro w0 hS0; (try dsimp only at hS0); go_simp; (try with_reducible rfl)
          (try simp only [List.getElem_toArray, List.getElem_cons_zero, List.getElem_cons_succ]); (try go_frame)
          refine wpAnyH_take (i := 6) (v := ?_) rfl (by kernel_rfl) (by kernel_rfl) (by kernel_rfl) (fun _ _ _ h => h) (Or.inl ⟨by kernel_rfl, ?_⟩) (by assumption) ?_
          rotate_left
          · intro w0 hS0; (try dsimp only at hS0); go_simp; (try with_reducible rfl)
          (try simp only [List.getElem_toArray, List.getElem_cons_zero, List.getElem_cons_succ]); (try go_frame)
          refine wpAnyH_take (i := 7) (v := ?_) rfl (by kernel_rfl) (by kernel_rfl) (by kernel_rfl) (fun _ _ _ h => h) (Or.inl ⟨by kernel_rfl, ?_⟩) (by assumption) ?_
          rotate_left
          · intro w0 hS0; (try dsimp only at hS0); go_simp; (try with_reducible rfl)
          (try simp only [List.getElem_toArray, List.getElem_cons_zero, List.getElem_cons_succ]); (try go_frame)
          refine wpAnyH_take (i := 8) (v := ?_) rfl (by kernel_rfl) (by kernel_rfl) (by kernel_rfl) (fun _ _ _ h => h) (Or.inl ⟨by kernel_rfl, ?_⟩) (by assumption) ?_
          rotate_left
          · intro w0 hS0; (try dsimp only at hS0); go_simp; (try with_reducible rfl)
          (try simp only [List.getElem_toArray, List.getElem_cons_zero, List.getElem_cons_succ]); (try go_frame)
          refine wpAnyH_ready (rs := [9]) (by kernel_rfl) (by simp) ?_
          refine AllReadyH.cons rfl (fun K hK => ?_) AllReadyH.nil
          · go_simp
            go_at_call 15
            with_reducible refine (CDV.out _ _ _ hk1).mono ?_
            rintro e u2 ⟨rfl, hk2⟩
            go_wp2_with fail
            refine hK.out _ _ (hk2.s) (fun hHeld => ?_)
            clear hK K
            (try simp only [List.getElem_toArray, List.getElem_cons_zero, List.getElem_cons_succ]); (try go_frame)
            refine wpAnyH_take (i := 10) (v := ?_) rfl (by kernel_rfl) (by kernel_rfl) (by kernel_rfl) (fun _ _ _ h => h) (Or.inl ⟨by kernel_rfl, ?_⟩) (by assumption) ?_
            rotate_left
            · intro w0 hS0; (try dsimp only at hS0); go_simp; (try with_reducible rfl)
            (try simp only [List.getElem_toArray, List.getElem_cons_zero, List.getElem_cons_succ]); (try go_frame)
            refine wpAnyH_take (i := 11) (v := ?_) rfl (by kernel_rfl) (by kernel_rfl) (by kernel_rfl) (fun _ _ _ h => h) (Or.inl ⟨by kernel_rfl, ?_⟩) (by assumption) ?_
            rotate_left
            · intro w0 hS0; (try dsimp only at hS0); go_simp; (try with_reducible rfl)
            (try simp only [List.getElem_toArray, List.getElem_cons_zero, List.getElem_cons_succ]); (try go_frame)
            refine wpAnyH_take (i := 12) (v := undef) rfl (by kernel_rfl) (by kernel_rfl) (by kernel_rfl) (fun _ _ _ h => h) (Or.inr ⟨by kernel_rfl, rfl⟩) (by assumption) ?_
            (try simp only [List.getElem_toArray, List.getElem_cons_zero, List.getElem_cons_succ]); (try go_frame)
            refine wpAnyH_take (i := 13) (v := undef) rfl (by kernel_rfl) (by kernel_rfl) (by kernel_rfl) (fun _ _ _ h => h) (Or.inr ⟨by kernel_rfl, rfl⟩) (by assumption) ?_
            (try simp only [List.getElem_toArray, List.getElem_cons_zero, List.getElem_cons_succ]); (try go_frame)
            refine wpAnyH_take (i := 14) (v := undef) rfl (by kernel_rfl) (by kernel_rfl) (by kernel_rfl) (fun _ _ _ h => h) (Or.inr ⟨by kernel_rfl, rfl⟩) (by assumption) ?_
            (try simp only [List.getElem_toArray, List.getElem_cons_zero, List.getElem_cons_succ]); (try go_frame)
            refine wpAnyH_take (i := 15) (v := ?_) rfl (by kernel_rfl) (by kernel_rfl) (by kernel_rfl) (fun _ _ _ h => h) (Or.inl ⟨by kernel_rfl, ?_⟩) (by assumption) ?_
            rotate_left
            · intro w0 hS0; (try dsimp only at hS0); go_simp; (try with_reducible rfl)
            (try simp only [List.getElem_toArray, List.getElem_cons_zero, List.getElem_cons_succ]); (try go_frame)
            refine wpAnyH_ready (rs := [16]) (by kernel_rfl) (by simp) ?_
            refine AllReadyH.cons rfl (fun K hK => ?_) AllReadyH.nil
            · have r0 := hk2.res.cell 0
              have r1 := hk2.res.cell 1
              simp at r0 r1
              have rf := hk2.res.frozen
              have rl := hk2.res.lt
              have hk3 := hk2.put (by omega) (by omega) (fun q hq => by omega) (.string ⟨t.atom.toArray⟩) (.slice A n c)
              go_simp
              refine hK.out _ _ (hk3.s) (fun hHeld => ?_)
              clear hK K r0 r1 rf rl
              (try simp only [List.getElem_toArray, List.getElem_cons_zero, List.getElem_cons_succ]); (try go_frame)
              refine wpAnyH_take (i := 17) (v := ?_) rfl (by kernel_rfl) (by kernel_rfl) (by kernel_rfl) (fun _ _ _ h => h) (Or.inl ⟨by kernel_rfl, ?_⟩) (by assumption) ?_
              rotate_left
              · intro w0 hS0; (try dsimp only at hS0); go_simp; (try with_reducible rfl)
              (try simp only [List.getElem_toArray, List.getElem_cons_zero, List.getElem_cons_succ]); (try go_frame)
              refine wpAnyH_done (by kernel_rfl) ?_ _
              go_wp2
              refine bodyPost_ret (ret_tree Try.results9 _ _ _ _ _ rfl hk3.res) rfl ?_
              exact HEND.out _ hk3
      | true =>
        have hno : dvN t ≤ trAtoms t := ndOk_atoms k t hd
        obtain ⟨N, hN⟩ : ∃ N, dvN t = N := ⟨_, rfl⟩
        obtain ⟨qb, hqb⟩ : ∃ qb, decide ((N : Int) ≤ 600) = qb := ⟨_, rfl⟩
        have hq : rdDv x s.data.toList = if qb = true then some t else none := by
          unfold rdDv; rw [hkx, hrd, ← hqb, ← hN]; simp [hd]; congr 1; apply propext; constructor <;> intro h <;> omega
        have CKD : Hid (∀ w' rx ry, VKeep w (fun b => w.heap.size + 1 ≤ b ∧ b < w1.heap.size) (some t) w.heap.size w1.heap.size ⟨t.atom.toArray⟩ A n c rx ry w' → Calls Try.prog 14 #[.string ⟨x.toArray⟩] w' fun e w2 => e = .returned (.bool true) ∧ VKeep w (fun b => w.heap.size + 1 ≤ b ∧ b < w1.heap.size) (some t) w.heap.size w1.heap.size ⟨t.atom.toArray⟩ A n c rx ry w2) := Lib.hid fun w' rx ry h => h.kd x true (by rw [hkx]; rfl)
        have CDV : Hid (∀ w' rx ry, VKeep w (fun b => w.heap.size + 1 ≤ b ∧ b < w1.heap.size) (some t) w.heap.size w1.heap.size ⟨t.atom.toArray⟩ A n c rx ry w' → Calls Try.prog 15 #[.string ⟨x.toArray⟩, .agg #[.string ⟨t.atom.toArray⟩, .slice A n c]] w' fun e w2 => e = .returned (.bool true) ∧ VKeep w (fun b => w.heap.size + 1 ≤ b ∧ b < w1.heap.size) (some t) w.heap.size w1.heap.size ⟨t.atom.toArray⟩ A n c rx ry w2) := Lib.hid fun w' rx ry h => by rw [hxk]; exact h.dv k hlen ha true hd
        have CNO : Hid (∀ w' rx ry, VKeep w (fun b => w.heap.size + 1 ≤ b ∧ b < w1.heap.size) (some t) w.heap.size w1.heap.size ⟨t.atom.toArray⟩ A n c rx ry w' → Calls Try.prog 11 #[.agg #[.string ⟨t.atom.toArray⟩, .slice A n c]] w' fun e w2 => e = .returned (.int .i64 (N : Nat)) ∧ VKeep w (fun b => w.heap.size + 1 ≤ b ∧ b < w1.heap.size) (some t) w.heap.size w1.heap.size ⟨t.atom.toArray⟩ A n c rx ry w2) := Lib.hid fun w' rx ry h => by rw [← hN]; exact h.no k hd (by omega)
        have HEND : Hid (∀ w', VKeep w (fun b => w.heap.size + 1 ≤ b ∧ b < w1.heap.size) (some t) w.heap.size w1.heap.size ⟨t.atom.toArray⟩ A n c (.string ⟨t.atom.toArray⟩) (.slice A n c) w' → TrRet (rdDv x) s w (.returned (.tuple #[.agg #[.string ⟨t.atom.toArray⟩, .slice A n c], .bool qb])) w') := Lib.hid fun w' h => h.shut (fun q hq => by omega) hq
        clear hrd htr hok hq hkx hxk hd hno hN
        go_wp2_with fail
        have hk0 := hk.drew
        have hlt := hk0.own.lt
        refine wp_region_held_drew (S := (fun w' => w'.cell? ⟨w1.heap.size, 0, none⟩ = some (.string ⟨t.atom.toArray⟩) ∧ w'.cell? ⟨w1.heap.size, 1, none⟩ = some (.slice A n c) ∧ ∃ rx ry, VKeep w (fun b => w.heap.size + 1 ≤ b ∧ b < w1.heap.size) (some t) w.heap.size w1.heap.size ⟨t.atom.toArray⟩ A n c rx ry w')) (by kernel_rfl) (hk0.s) (fun hHeld => ?_)
        generalize (w1.alloc (.cells #[.string ⟨t.atom.toArray⟩, .slice A n c] 26)).drew = wd at hk0 hlt hHeld ⊢
        clear hk
        refine wpAnyH_take (i := 0) (v := ?_) rfl (by kernel_rfl) (by kernel_rfl) (by kernel_rfl) (fun _ _ _ h => h) (Or.inl ⟨by kernel_rfl, ?_⟩) (by assumption) ?_
        rotate_left
        · intro w0 hS0; (try dsimp only at hS0); go_simp; (try with_reducible rfl)
        (try simp only [List.getElem_toArray, List.getElem_cons_zero]); (try go_frame)
        refine wpAnyH_take (i := 1) (v := ?_) rfl (by kernel_rfl) (by kernel_rfl) (by kernel_rfl) (fun _ _ _ h => h) (Or.inl ⟨by kernel_rfl, ?_⟩) (by assumption) ?_
        rotate_left
        · intro w0 hS0; (try dsimp only at hS0); go_simp; (try with_reducible rfl)
        (try simp only [List.getElem_toArray, List.getElem_cons_zero, List.getElem_cons_succ]); (try go_frame)
        refine wpAnyH_take (i := 2) (v := ?_) rfl (by kernel_rfl) (by kernel_rfl) (by kernel_rfl) (fun _ _ _ h => h) (Or.inl ⟨by kernel_rfl, ?_⟩) (by assumption) ?_
        rotate_left
        · intro w0 hS0; (try dsimp only at hS0); go_simp; (try with_reducible rfl)
        (try simp only [List.getElem_toArray, List.getElem_cons_zero, List.getElem_cons_succ]); (try go_frame)
        refine wpAnyH_take (i := 3) (v := ?_) rfl (by kernel_rfl) (by kernel_rfl) (by kernel_rfl) (fun _ _ _ h => h) (Or.inl ⟨by kernel_rfl, ?_⟩) (by assumption) ?_
        rotate_left
        · intro w0 hS0; (try dsimp only at hS0); go_simp; (try with_reducible rfl)
        (try simp only [List.getElem_toArray, List.getElem_cons_zero, List.getElem_cons_succ]); (try go_frame)
        refine wpAnyH_ready (rs := [4]) (by kernel_rfl) (by simp) ?_
        refine AllReadyH.cons rfl (fun K hK => ?_) AllReadyH.nil
        · go_simp
          go_at_call 14
          with_reducible refine (CKD.out _ _ _ hk0).mono ?_
          rintro e u1 ⟨rfl, hk1⟩
          go_wp2_with fail
          refine hK.out _ _ (hk1.s) (fun hHeld => ?_)
          clear hK K
          (try simp only [List.getElem_toArray, List.getElem_cons_zero, List.getElem_cons_succ]); (try go_frame)
          refine wpAnyH_take (i := 5) (v := ?_) rfl (by kernel_rfl) (by kernel_rfl) (by kernel_rfl) (fun _ _ _ h => h) (Or.inl ⟨by kernel_rfl, ?_⟩) (by assumption) ?_
          rotate_left
          · intro w0 hS0; (try dsimp only at hS0); go_simp; (try with_reducible rfl)
          (try simp only [List.getElem_toArray, List.getElem_cons_zero, List.getElem_cons_succ]); (try go_frame)
          refine wpAnyH_take (i := 6) (v := ?_) rfl (by kernel_rfl) (by kernel_rfl) (by kernel_rfl) (fun _ _ _ h => h) (Or.inl ⟨by kernel_rfl, ?_⟩) (by assumption) ?_
          rotate_left
          · intro w0 hS0; (try dsimp only at hS0); go_simp; (try with_reducible rfl)
          (try simp only [List.getElem_toArray, List.getElem_cons_zero, List.getElem_cons_succ]); (try go_frame)
          refine wpAnyH_take (i := 7) (v := ?_) rfl (by kernel_rfl) (by kernel_rfl) (by kernel_rfl) (fun _ _ _ h => h) (Or.inl ⟨by kernel_rfl, ?_⟩) (by assumption) ?_
          rotate_left
          · intro w0 hS0; (try dsimp only at hS0); go_simp; (try with_reducible rfl)
          (try simp only [List.getElem_toArray, List.getElem_cons_zero, List.getElem_cons_succ]); (try go_frame)
          refine wpAnyH_take (i := 8) (v := ?_) rfl (by kernel_rfl) (by kernel_rfl) (by kernel_rfl) (fun _ _ _ h => h) (Or.inl ⟨by kernel_rfl, ?_⟩) (by assumption) ?_
          rotate_left
          · intro w0 hS0; (try dsimp only at hS0); go_simp; (try with_reducible rfl)
          (try simp only [List.getElem_toArray, List.getElem_cons_zero, List.getElem_cons_succ]); (try go_frame)
          refine wpAnyH_ready (rs := [9]) (by kernel_rfl) (by simp) ?_
          refine AllReadyH.cons rfl (fun K hK => ?_) AllReadyH.nil
          · go_simp
            go_at_call 15
            with_reducible refine (CDV.out _ _ _ hk1).mono ?_
            rintro e u2 ⟨rfl, hk2⟩
            go_wp2_with fail
            refine hK.out _ _ (hk2.s) (fun hHeld => ?_)
            clear hK K
            (try simp only [List.getElem_toArray, List.getElem_cons_zero, List.getElem_cons_succ]); (try go_frame)
            refine wpAnyH_take (i := 10) (v := ?_) rfl (by kernel_rfl) (by kernel_rfl) (by kernel_rfl) (fun _ _ _ h => h) (Or.inl ⟨by kernel_rfl, ?_⟩) (by assumption) ?_
            rotate_left
            · intro w0 hS0; (try dsimp only at hS0); go_simp; (try with_reducible rfl)
            (try simp only [List.getElem_toArray, List.getElem_cons_zero, List.getElem_cons_succ]); (try go_frame)
            refine wpAnyH_take (i := 11) (v := ?_) rfl (by kernel_rfl) (by kernel_rfl) (by kernel_rfl) (fun _ _ _ h => h) (Or.inl ⟨by kernel_rfl, ?_⟩) (by assumption) ?_
            rotate_left
            · intro w0 hS0; (try dsimp only at hS0); go_simp; (try with_reducible rfl)
            (try simp only [List.getElem_toArray, List.getElem_cons_zero, List.getElem_cons_succ]); (try go_frame)
            refine wpAnyH_take (i := 12) (v := ?_) rfl (by kernel_rfl) (by kernel_rfl) (by kernel_rfl) (fun _ _ _ h => h) (Or.inl ⟨by kernel_rfl, ?_⟩) (by assumption) ?_
            rotate_left
            · intro w0 hS0; (try dsimp only at hS0); go_simp; (try with_reducible rfl)
            (try simp only [List.getElem_toArray, List.getElem_cons_zero, List.getElem_cons_succ]); (try go_frame)
            refine wpAnyH_ready (rs := [13]) (by kernel_rfl) (by simp) ?_
            refine AllReadyH.cons rfl (fun K hK => ?_) AllReadyH.nil
            · go_simp
              go_at_call 11
              with_reducible refine (CNO.out _ _ _ hk2).mono ?_
              rintro e u3 ⟨rfl, hk3⟩
              go_wp2_with fail
              refine hK.out _ _ (hk3.s) (fun hHeld => ?_)
              clear hK K
              (try simp only [List.getElem_toArray, List.getElem_cons_zero, List.getElem_cons_succ]); (try go_frame)
              refine wpAnyH_take (i := 14) (v := ?_) rfl (by kernel_rfl) (by kernel_rfl) (by kernel_rfl) (fun _ _ _ h => h) (Or.inl ⟨by kernel_rfl, ?_⟩) (by assumption) ?_
              rotate_left
              · intro w0 hS0; (try dsimp only at hS0); go_simp; (try with_reducible rfl)
              (try simp only [List.getElem_toArray, List.getElem_cons_zero, List.getElem_cons_succ]); (try go_frame)
              refine wpAnyH_take (i := 15) (v := ?_) rfl (by kernel_rfl) (by kernel_rfl) (by kernel_rfl) (fun _ _ _ h => h) (Or.inl ⟨by kernel_rfl, ?_⟩) (by assumption) ?_
              rotate_left
              · intro w0 hS0; (try dsimp only at hS0); go_simp; (try with_reducible rfl)
              (try simp only [List.getElem_toArray, List.getElem_cons_zero, List.getElem_cons_succ]); (try go_frame)
              refine wpAnyH_ready (rs := [16]) (by kernel_rfl) (by simp) ?_
              refine AllReadyH.cons rfl (fun K hK => ?_) AllReadyH.nil
              · have r0 := hk3.res.cell 0
                have r1 := hk3.res.cell 1
                simp at r0 r1
                have rf := hk3.res.frozen
                have rl := hk3.res.lt
                have hk4 := hk3.put (by omega) (by omega) (fun q hq => by omega) (.string ⟨t.atom.toArray⟩) (.slice A n c)
                go_simp
                refine hK.out _ _ (hk4.s) (fun hHeld => ?_)
                clear hK K r0 r1 rf rl
                (try simp only [List.getElem_toArray, List.getElem_cons_zero, List.getElem_cons_succ]); (try go_frame)
                refine wpAnyH_take (i := 17) (v := ?_) rfl (by kernel_rfl) (by kernel_rfl) (by kernel_rfl) (fun _ _ _ h => h) (Or.inl ⟨by kernel_rfl, ?_⟩) (by assumption) ?_
                rotate_left
                · intro w0 hS0; (try dsimp only at hS0); go_simp; (try with_reducible rfl)
                (try simp only [List.getElem_toArray, List.getElem_cons_zero, List.getElem_cons_succ]); (try go_frame)
                refine wpAnyH_done (by kernel_rfl) ?_ _
                go_wp2
                refine bodyPost_ret (ret_tree Try.results9 _ _ _ _ _ rfl hk4.res) rfl ?_
                exact HEND.out _ hk4
  · have hk : VKeep w (fun b => w.heap.size + 1 ≤ b ∧ b < w1.heap.size) none w.heap.size w1.heap.size xb A n c (.string ⟨#[]⟩) (.slice none 0 0) (w1.alloc (.cells #[.string xb, .slice A n c] 26)) :=
      ⟨hr.alloc _, Blk.new _ _ _, (fun t' e => by cases e), fun q hq => by simp; omega, hB.alloc (by omega) _, by simp; omega⟩
    have hq : rdDv x s.data.toList = none := by unfold rdDv; rw [hrd]; cases rdKind x <;> rfl
    have HEND : Hid (∀ w', VKeep w (fun b => w.heap.size + 1 ≤ b ∧ b < w1.heap.size) none w.heap.size w1.heap.size xb A n c (.string xb) (.slice A n c) w' → TrRet (rdDv x) s w (.returned (.tuple #[.agg #[.string xb, .slice A n c], .bool false])) w') := Lib.hid fun w' h => ⟨h.below, .inr ⟨hq, _, _, _, _, rfl⟩⟩
    clear hrd hq
    go_wp2_with fail
    have hk0 := hk.drew
    have hlt := hk0.own.lt
    refine wp_region_held_drew (S := (fun w' => w'.cell? ⟨w1.heap.size, 0, none⟩ = some (.string xb) ∧ w'.cell? ⟨w1.heap.size, 1, none⟩ = some (.slice A n c) ∧ ∃ rx ry, VKeep w (fun b => w.heap.size + 1 ≤ b ∧ b < w1.heap.size) none w.heap.size w1.heap.size xb A n c rx ry w')) (by kernel_rfl) (hk0.s) (fun hHeld => ?_)
    generalize (w1.alloc (.cells #[.string xb, .slice A n c] 26)).drew = wd at hk0 hlt hHeld ⊢
    clear hk
    refine wpAnyH_take (i := 0) (v := ?_) rfl (by kernel_rfl) (by kernel_rfl) (by kernel_rfl) (fun _ _ _ h => h) (Or.inl ⟨by kernel_rfl, ?_⟩) (by assumption) ?_
    rotate_left
    · intro w0 hS0; (try dsimp only at hS0); go_simp; (try with_reducible rfl)
    (try simp only [List.getElem_toArray, List.getElem_cons_zero]); (try go_frame)
    refine wpAnyH_take (i := 1) (v := ?_) rfl (by kernel_rfl) (by kernel_rfl) (by kernel_rfl) (fun _ _ _ h => h) (Or.inl ⟨by kernel_rfl, ?_⟩) (by assumption) ?_
    rotate_left
    · intro w0 hS0; (try dsimp only at hS0); go_simp; (try with_reducible rfl)
    (try simp only [List.getElem_toArray, List.getElem_cons_zero, List.getElem_cons_succ]); (try go_frame)
    refine wpAnyH_take (i := 2) (v := ?_) rfl (by kernel_rfl) (by kernel_rfl) (by kernel_rfl) (fun _ _ _ h => h) (Or.inl ⟨by kernel_rfl, ?_⟩) (by assumption) ?_
    rotate_left
    · intro w0 hS0; (try dsimp only at hS0); go_simp; (try with_reducible rfl)
    (try simp only [List.getElem_toArray, List.getElem_cons_zero, List.getElem_cons_succ]); (try go_frame)
    refine wpAnyH_take (i := 3) (v := undef) rfl (by kernel_rfl) (by kernel_rfl) (by kernel_rfl) (fun _ _ _ h => h) (Or.inr ⟨by kernel_rfl, rfl⟩) (by assumption) ?_
    (try simp only [List.getElem_toArray, List.getElem_cons_zero, List.getElem_cons_succ]); (try go_frame)
    refine wpAnyH_take (i := 4) (v := undef) rfl (by kernel_rfl) (by kernel_rfl) (by kernel_rfl) (fun _ _ _ h => h) (Or.inr ⟨by kernel_rfl, rfl⟩) (by assumption) ?_
    (try simp only [List.getElem_toArray, List.getElem_cons_zero, List.getElem_cons_succ]); (try go_frame)
    refine wpAnyH_take (i := 5) (v := ?_) rfl (by kernel_rfl) (by kernel_rfl) (by kernel_rfl) (fun _ _ _ h => h) (Or.inl ⟨by kernel_rfl, ?_⟩) (by assumption) ?_
    rotate_left
    · intro w0 hS0; (try dsimp only at hS0); go_simp; (try with_reducible rfl)
    (try simp only [List.getElem_toArray, List.getElem_cons_zero, List.getElem_cons_succ]); (try go_frame)
    refine wpAnyH_take (i := 6) (v := ?_) rfl (by kernel_rfl) (by kernel_rfl) (by kernel_rfl) (fun _ _ _ h => h) (Or.inl ⟨by kernel_rfl, ?_⟩) (by assumption) ?_
    rotate_left
    · intro w0 hS0; (try dsimp only at hS0); go_simp; (try with_reducible rfl)
    (try simp only [List.getElem_toArray, List.getElem_cons_zero, List.getElem_cons_succ]); (try go_frame)
    refine wpAnyH_take (i := 7) (v := undef) rfl (by kernel_rfl) (by kernel_rfl) (by kernel_rfl) (fun _ _ _ h => h) (Or.inr ⟨by kernel_rfl, rfl⟩) (by assumption) ?_
    (try simp only [List.getElem_toArray, List.getElem_cons_zero, List.getElem_cons_succ]); (try go_frame)
    refine wpAnyH_take (i := 8) (v := undef) rfl (by kernel_rfl) (by kernel_rfl) (by kernel_rfl) (fun _ _ _ h => h) (Or.inr ⟨by kernel_rfl, rfl⟩) (by assumption) ?_
    (try simp only [List.getElem_toArray, List.getElem_cons_zero, List.getElem_cons_succ]); (try go_frame)
    refine wpAnyH_take (i := 9) (v := undef) rfl (by kernel_rfl) (by kernel_rfl) (by kernel_rfl) (fun _ _ _ h => h) (Or.inr ⟨by kernel_rfl, rfl⟩) (by assumption) ?_
    (try simp only [List.getElem_toArray, List.getElem_cons_zero, List.getElem_cons_succ]); (try go_frame)
    refine wpAnyH_take (i := 10) (v := ?_) rfl (by kernel_rfl) (by kernel_rfl) (by kernel_rfl) (fun _ _ _ h => h) (Or.inl ⟨by kernel_rfl, ?_⟩) (by assumption) ?_
    rotate_left
    · intro w0 hS0; (try dsimp only at hS0); go_simp; (try with_reducible rfl)
    (try simp only [List.getElem_toArray, List.getElem_cons_zero, List.getElem_cons_succ]); (try go_frame)
    refine wpAnyH_take (i := 11) (v := ?_) rfl (by kernel_rfl) (by kernel_rfl) (by kernel_rfl) (fun _ _ _ h => h) (Or.inl ⟨by kernel_rfl, ?_⟩) (by assumption) ?_
    rotate_left
    · intro w0 hS0; (try dsimp only at hS0); go_simp; (try with_reducible rfl)
    (try simp only [List.getElem_toArray, List.getElem_cons_zero, List.getElem_cons_succ]); (try go_frame)
    refine wpAnyH_take (i := 12) (v := undef) rfl (by kernel_rfl) (by kernel_rfl) (by kernel_rfl) (fun _ _ _ h => h) (Or.inr ⟨by kernel_rfl, rfl⟩) (by assumption) ?_
    (try simp only [List.getElem_toArray, List.getElem_cons_zero, List.getElem_cons_succ]); (try go_frame)
    refine wpAnyH_take (i := 13) (v := undef) rfl (by kernel_rfl) (by kernel_rfl) (by kernel_rfl) (fun _ _ _ h => h) (Or.inr ⟨by kernel_rfl, rfl⟩) (by assumption) ?_
    (try simp only [List.getElem_toArray, List.getElem_cons_zero, List.getElem_cons_succ]); (try go_frame)
    refine wpAnyH_take (i := 14) (v := undef) rfl (by kernel_rfl) (by kernel_rfl) (by kernel_rfl) (fun _ _ _ h => h) (Or.inr ⟨by kernel_rfl, rfl⟩) (by assumption) ?_
    (try simp only [List.getElem_toArray, List.getElem_cons_zero, List.getElem_cons_succ]); (try go_frame)
    refine wpAnyH_take (i := 15) (v := ?_) rfl (by kernel_rfl) (by kernel_rfl) (by kernel_rfl) (fun _ _ _ h => h) (Or.inl ⟨by kernel_rfl, ?_⟩) (by assumption) ?_
    rotate_left
    · intro w0 hS0; (try dsimp only at hS0); go_simp; (try with_reducible rfl)
    (try simp only [List.getElem_toArray, List.getElem_cons_zero, List.getElem_cons_succ]); (try go_frame)
    refine wpAnyH_ready (rs := [16]) (by kernel_rfl) (by simp) ?_
    refine AllReadyH.cons rfl (fun K hK => ?_) AllReadyH.nil
    · have r0 := hk0.res.cell 0
      have r1 := hk0.res.cell 1
      simp at r0 r1
      have rf := hk0.res.frozen
      have rl := hk0.res.lt
      have hk1 := hk0.put (by omega) (by omega) (fun q hq => by omega) (.string xb) (.slice A n c)
      go_simp
      refine hK.out _ _ (hk1.s) (fun hHeld => ?_)
      clear hK K r0 r1 rf rl
      (try simp only [List.getElem_toArray, List.getElem_cons_zero, List.getElem_cons_succ]); (try go_frame)
      refine wpAnyH_take (i := 17) (v := ?_) rfl (by kernel_rfl) (by kernel_rfl) (by kernel_rfl) (fun _ _ _ h => h) (Or.inl ⟨by kernel_rfl, ?_⟩) (by assumption) ?_
      rotate_left
      · intro w0 hS0; (try dsimp only at hS0); go_simp; (try with_reducible rfl)
      (try simp only [List.getElem_toArray, List.getElem_cons_zero, List.getElem_cons_succ]); (try go_frame)
      refine wpAnyH_done (by kernel_rfl) ?_ _
      go_wp2
      refine bodyPost_ret (ret_tree Try.results9 _ _ _ _ _ rfl hk1.res) rfl ?_
      exact HEND.out _ hk1
end Go.Proofs.Ytnnnphammfeemaa
