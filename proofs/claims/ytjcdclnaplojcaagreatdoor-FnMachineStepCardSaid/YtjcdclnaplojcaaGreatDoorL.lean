/- The program's terms with depths in memory; a name, a lam, an app is made. -/
import Derived.Test.YtjcdclnaplojcaaGreatDoorK
import Derived.Test.YtjcdclnaplojcaaGreatDoorA1
import Derived.Test.YtjcdclnaplojcaaGreatDoorS0
import Derived.Test.YtjcdclnaplojcaaGreatDoorN
namespace Go.Proofs.YtjcdclnaplojcaaGreatDoor
set_option linter.unusedVariables false
open Go.RowKit


/-- A term with depths lies in memory. -/
def DAt (w : World) (P : Nat → Prop) : DB → Value → Prop
  | .free x, v => ∃ b, v = .pointer (some ⟨b, 0, none⟩) ∧ P b ∧ x.length ≤ 8000 ∧ Blk w b 132 #[.int .i64 0, .string ⟨x.toArray⟩, .int .i64 0, .pointer none, .pointer none]
  | .bnd i, v => ∃ b, v = .pointer (some ⟨b, 0, none⟩) ∧ P b ∧ Blk w b 132 #[.int .i64 1, .string ⟨#[]⟩, .int .i64 i, .pointer none, .pointer none]
  | .lam x d, v => ∃ b c, v = .pointer (some ⟨b, 0, none⟩) ∧ P b ∧ x.length ≤ 8000 ∧ Blk w b 132 #[.int .i64 2, .string ⟨x.toArray⟩, .int .i64 0, .pointer (some ⟨c, 0, none⟩), .pointer none] ∧ DAt w P d (.pointer (some ⟨c, 0, none⟩))
  | .app f a, v => ∃ b c d, v = .pointer (some ⟨b, 0, none⟩) ∧ P b ∧ Blk w b 132 #[.int .i64 3, .string ⟨#[]⟩, .int .i64 0, .pointer (some ⟨c, 0, none⟩), .pointer (some ⟨d, 0, none⟩)] ∧ DAt w P f (.pointer (some ⟨c, 0, none⟩)) ∧ DAt w P a (.pointer (some ⟨d, 0, none⟩))

theorem DAt.mono {w w' : World} {P Q : Nat → Prop} (h : ∀ b, P b → Q b ∧ w'.heap[b]? = w.heap[b]?) : ∀ {t : DB} {v : Value}, DAt w P t v → DAt w' Q t v := by
  intro t
  induction t with
  | free x => rintro v ⟨b, rfl, hb, hl, hk⟩; exact ⟨b, rfl, (h b hb).1, hl, (h b hb).2.trans hk⟩
  | bnd i => rintro v ⟨b, rfl, hb, hk⟩; exact ⟨b, rfl, (h b hb).1, (h b hb).2.trans hk⟩
  | lam x d ih => rintro v ⟨b, c, rfl, hb, hl, hk, hd⟩; exact ⟨b, c, rfl, (h b hb).1, hl, (h b hb).2.trans hk, ih hd⟩
  | app f a ihf iha => rintro v ⟨b, c, d, rfl, hb, hk, hf, ha⟩; exact ⟨b, c, d, rfl, (h b hb).1, (h b hb).2.trans hk, ihf hf, iha ha⟩
theorem DAt.shape {w : World} {P : Nat → Prop} {t : DB} {v : Value} (h : DAt w P t v) : ∃ b, v = .pointer (some ⟨b, 0, none⟩) ∧ P b := by
  cases t with
  | free x => obtain ⟨b, rfl, hb, _⟩ := h; exact ⟨b, rfl, hb⟩
  | bnd i => obtain ⟨b, rfl, hb, _⟩ := h; exact ⟨b, rfl, hb⟩
  | lam x d => obtain ⟨b, c, rfl, hb, _⟩ := h; exact ⟨b, rfl, hb⟩
  | app f a => obtain ⟨b, c, d, rfl, hb, _⟩ := h; exact ⟨b, rfl, hb⟩

theorem newLam_any (x : List UInt8) (c : Nat) (w : World) :
    Calls Tryz.prog 52 #[.string ⟨x.toArray⟩, .pointer (some ⟨c, 0, none⟩)] w fun e w' =>
      e = .returned (.pointer (some ⟨w.heap.size, 0, none⟩)) ∧ w' = w.alloc (.cells #[.int .i64 2, .string ⟨x.toArray⟩, .int .i64 0, .pointer (some ⟨c, 0, none⟩), .pointer none] 132) := by
  go_enter Tryz.func52, Tryz.ntmps52
  go_wp2
  go_ret
  exact ⟨rfl, rfl⟩
theorem newApp_any (c d : Nat) (w : World) :
    Calls Tryz.prog 51 #[.pointer (some ⟨c, 0, none⟩), .pointer (some ⟨d, 0, none⟩)] w fun e w' =>
      e = .returned (.pointer (some ⟨w.heap.size, 0, none⟩)) ∧ w' = w.alloc (.cells #[.int .i64 3, .string ⟨#[]⟩, .int .i64 0, .pointer (some ⟨c, 0, none⟩), .pointer (some ⟨d, 0, none⟩)] 132) := by
  go_enter Tryz.func51, Tryz.ntmps51
  go_wp2
  go_ret
  exact ⟨rfl, rfl⟩

/-- The names of the lams around, the innermost one first, lie in memory the other way round. -/
abbrev Scope (w : World) (sc : Value) (rs : List (List UInt8)) : Prop := w.ownsRow 0 9 1 sc rs.length (rs.reverse.map strV)

theorem Scope.cell {w : World} {A : Option Addr} {n c : Nat} {rs : List (List UInt8)} (h : Scope w (.slice A n c) rs) {k : Nat} (hk : k < rs.length) : ∃ g, A = some ⟨g, 0, none⟩ ∧ n = rs.length ∧ w.cell? ⟨g, rs.length - 1 - k, none⟩ = some (.string ⟨(rs[k]).toArray⟩) := by
  rcases h.2 with ⟨_, h0⟩ | ⟨g, cap, cur, hv, _⟩
  · omega
  · injection hv with h1 h2 h3
    subst h1
    refine ⟨g, rfl, h2, ?_⟩
    have := h.cells (g := g) rfl (rs.length - 1 - k) (.string ⟨(rs[k]).toArray⟩) (by
      rw [List.getElem?_map, List.getElem?_reverse (by omega), show rs.length - 1 - (rs.length - 1 - k) = k from by omega, List.getElem?_eq_getElem hk]
      rfl)
    rwa [add_off] at this

def NmPost (x : List UInt8) (rs : List (List UInt8)) (w : World) (e : Ending) (w' : World) : Prop :=
  (isNm x = false ∧ e = .returned (.tuple #[.pointer none, .bool false]) ∧ w = w') ∨
  (isNm x = true ∧ Below w.heap.size w w' ∧ ∃ v, e = .returned (.tuple #[v, .bool true]) ∧ DAt w' (fun b => w.heap.size ≤ b ∧ b < w'.heap.size) (toDB rs (.var x)) v)

set_option maxRecDepth 100000 in
theorem nameOf_any (x : List UInt8) (hx : x.length ≤ 8000) (rs : List (List UInt8)) (sc : Value) (w : World) (hsc : Scope w sc rs) (hrs : rs.length ≤ 10000) :
    Calls Tryz.prog 100 #[.string ⟨x.toArray⟩, sc] w (NmPost x rs w) := by
  obtain ⟨A, c, rfl⟩ := own_shape hsc
  have HS := Lib.hid hsc
  clear hsc
  cases hn : isNm x with
  | false =>
    have HN := Lib.hid hn
    go_enter Tryz.func100, Tryz.ntmps100
    go_wp2_with fail
    refine (isName_any _ _ (by simp [ByteArray.size, maxLen]; omega)).mono ?_
    rintro e w2 ⟨rfl, rfl⟩
    rw [toNil]
    go_wp2_with fail
    go_ret2
    exact .inl ⟨HN.out, rfl, rfl⟩
  | true =>
    have HN := Lib.hid hn
    go_enter Tryz.func100, Tryz.ntmps100
    go_wp2_with fail
    refine (isName_any _ _ (by simp [ByteArray.size, maxLen]; omega)).mono ?_
    rintro e w2 ⟨rfl, rfl⟩
    rw [toNil]
    go_wp2_with fail
    go_loop [12] (fun i => ∃ k : Nat, k ≤ rs.length ∧ i = .int .i64 k ∧ Hid (∀ j, j < k → rs[j]? ≠ some x)) (fun i => rs.length - (intOf i).toNat)
    case atStart => exact ⟨0, by omega, rfl, Lib.hid (fun j hj => by omega)⟩
    case round =>
      obtain ⟨k, hk, rfl, HA⟩ := hrel
      by_cases hlt : k < rs.length
      · obtain ⟨g, rfl, _, hcell⟩ := HS.out.cell hlt
        go_wp2
        all_goals first
          | (go_round
             case rel =>
               have hne : (rs[k] == x) = false := by assumption
               refine ⟨k + 1, by omega, by go_num, Lib.hid (fun j hj => ?_)⟩
               by_cases hjk : j = k
               · rw [hjk, List.getElem?_eq_getElem hlt]
                 intro e
                 injection e with e
                 rw [e] at hne
                 simp at hne
               · exact HA.out j (by omega)
             case measure => simp [intOf]; omega)
          | (have heq : (rs[k] == x) = true := by assumption
             go_ret2
             refine .inr ⟨HN.out, (Below.refl _ _).alloc (Nat.le_refl _) _, _, rfl, ?_⟩
             have hlk := lk_first rs x k HA.out (by rw [List.getElem?_eq_getElem hlt, beq_iff_eq.1 heq])
             simp only [toDB, hlk]
             exact ⟨w.heap.size, rfl, ⟨Nat.le_refl _, by simp⟩, Blk.new _ _ _⟩)
      · go_wp2
        go_ret2
        refine .inr ⟨HN.out, (Below.refl _ _).alloc (Nat.le_refl _) _, _, rfl, ?_⟩
        have hlk := lk_no rs x (fun j hj => HA.out j (by omega))
        simp only [toDB, hlk]
        exact ⟨w.heap.size, rfl, ⟨Nat.le_refl _, by simp⟩, hx, Blk.new _ _ _⟩

/-- append of one cell: where the new slice lies, and that the old one stands. -/
theorem run_append_two {P : Program} (w : World) (t ty e : TypeId) (i : TypeInfo) (z : Value) (bytes : Nat) (ht : P.underlying t = some (.slice e)) (hi : P.info? e = some i) (hz : i.zero = some z)
    (hsize : i.size = 1) (hby : i.bytes = bytes) (hzs : z.cells.size = 1) (v : Value) (n : Nat) (xs : List Value) (hown : w.ownsRow 0 e 1 v n xs)
    (a : Addr) (c : Nat) (u : Value) (hu : w.cell? a = some u) (h1 : u.oneCell' = true) (h63 : n + 1 ≤ maxLen) (hbytes : (n + 1) * bytes ≤ 140737488355328) :
    ∃ v' w', (Builtin.append_ #[t, t] ty #[v, .slice (some a) 1 c]).run P w = .ok v' w' ∧ w'.ownsRow 0 e 1 v' (n + 1) (xs ++ [u]) ∧ w'.ownsRow 0 e 1 v n xs ∧ w.grownBy w' v.ownBlock ∧
      ((∃ g cap, v = .slice (some ⟨g, 0, none⟩) n cap ∧ v' = .slice (some ⟨g, 0, none⟩) (n + 1) cap) ∨ (v'.ownBlock = some w.heap.size ∧ w.grownBy w' none)) := by
  have hnews : ∀ j q, [u][j]? = some q → w.cell? (a.add j) = some q := by
    intro j q hj
    match j, hj with
    | 0, hj => simp at hj; subst hj; simpa [Addr.add] using hu
  obtain ⟨v', w', hrun, ho, hg, hnil, hat⟩ := run_append_own_at (P := P) w 0 t ty e i z 1 bytes ht hi hz hsize hby hzs (by decide) v n xs hown a 1 c [u] rfl hnews (by intro q hq; simp at hq; subst hq; exact h1) h63 hbytes (Nat.zero_le _)
  refine ⟨v', w', hrun, ho, ?_⟩
  have hsmall : n + 1 ≤ 9223372036854775807 := by simp only [maxLen] at h63; omega
  rcases hown.2 with ⟨rfl, rfl⟩ | ⟨g, cap, cur, rfl, hbg, hgg, hnc, hcm, hcs, htake⟩
  · have hx : xs = [] := List.eq_nil_of_length_eq_zero (by simpa using hown.1)
    subst hx
    have hr := run_append_nil (P := P) w t ty e i z ht hi hz a 1 c [u] (by rw [hsize]; rfl) hnews (by decide) (by decide) (by rw [hby]; omega)
    rw [hr] at hrun
    injection hrun with e1 e2
    subst e1 e2
    exact ⟨World.ownsRow_nil _ _ _ _, hg, .inr ⟨rfl, World.grownBy.trans (b := w.drew) ⟨rfl, rfl, rfl, Nat.le_refl _, fun _ _ _ => rfl⟩ (World.grownBy_alloc _ _ _)⟩⟩
  · by_cases hroom : n + 1 ≤ cap
    · have hr := run_append_room (P := P) w t ty e i ht hi g n cap cur hgg a 1 c [u] (by rw [hsize]; rfl) hnews (by intro q hq; simp at hq; subst hq; exact h1) hroom (by rw [hsize]; simp; omega)
      rw [hr] at hrun
      injection hrun with e1 e2
      subst e1 e2
      refine ⟨⟨hown.1, .inr ⟨g, cap, _, rfl, hbg, setRow_heap w g cur _ e _ hgg, hnc, hcm, ?_, ?_⟩⟩, hg, .inl ⟨g, cap, rfl, rfl⟩⟩
      · simp only [hsize, List.size_toArray, List.length_append, List.length_take, List.length_drop, Array.length_toList, List.length_cons, List.length_nil]
        omega
      · simp only [hsize]
        rw [List.append_assoc, List.take_append_of_le_length (by simp; omega), List.take_take, Nat.min_self]
        exact htake
    · have hr := run_append_grow (P := P) w t ty e i z ht hi hz ⟨g, 0, none⟩ n cap xs (by rw [hsize]; exact hown.1) (hown.cells (g := g) rfl) a 1 c [u] (by rw [hsize]; rfl) hnews (by omega) (by omega) (by rw [hby]; exact growslice_fits (by omega) hbytes)
      rw [hr] at hrun
      injection hrun with e1 e2
      subst e1 e2
      have hgn : w.grownBy (w.drew.alloc (.cells (xs.toArray ++ [u].toArray ++ Builtin.zeroCells z.cells (grownCap w (n + 1) cap e - (n + 1))) e)) none :=
        World.grownBy.trans (b := w.drew) ⟨rfl, rfl, rfl, Nat.le_refl _, fun _ _ _ => rfl⟩ (World.grownBy_alloc _ _ _)
      exact ⟨hown.kept hgn (.inr (by simp [Value.ownBlock])), hg, .inr ⟨rfl, hgn⟩⟩

theorem wpList_append_two {P : Program} {w : World} {ops : Array Oper} {rest : List Oper} {o : Oper} {ac : Act} {Q : Exit → Act → World → Prop} (hgd : o.guard = none) (s x : Operand) (t : TypeId)
    (ho : o.op = .call { callee := .builtin .append, args := #[s, x], argTypes := #[t, t] })
    (e : TypeId) (i : TypeInfo) (z : Value) (bytes : Nat) (ht : P.underlying t = some (.slice e)) (hi : P.info? e = some i) (hz : i.zero = some z)
    (hsize : i.size = 1) (hby : i.bytes = bytes) (hzs : z.cells.size = 1) (v : Value) (n : Nat) (xs : List Value) (hs : ac.eval s = v) (hown : w.ownsRow 0 e 1 v n xs)
    (a : Addr) (c : Nat) (u : Value) (hx : ac.eval x = .slice (some a) 1 c) (hu : w.cell? a = some u) (h1 : u.oneCell' = true) (h63 : n + 1 ≤ maxLen) (hbytes : (n + 1) * bytes ≤ 140737488355328)
    (h : ∀ v' w', w'.ownsRow 0 e 1 v' (n + 1) (xs ++ [u]) → w'.ownsRow 0 e 1 v n xs → w.grownBy w' v.ownBlock →
      ((∃ g cap, v = .slice (some ⟨g, 0, none⟩) n cap ∧ v' = .slice (some ⟨g, 0, none⟩) (n + 1) cap) ∨ (v'.ownBlock = some w.heap.size ∧ w.grownBy w' none)) → wpList P ops Q rest (ac.put o.dst v') w') : wpList P ops Q (o :: rest) ac w := by
  refine wpList_plain hgd fun K hK => ?_
  obtain ⟨v', w', hr, h2, h3, h4, h5⟩ := run_append_two (P := P) w t o.type e i z bytes ht hi hz hsize hby hzs v n xs hown a c u hu h1 h63 hbytes
  unfold Oper.wp execOp
  simp only [ho, resolve, invoke, builtin, Sem.run_bind, Sem.run_pure, Result.andThen_ok, List.map_toArray, List.map_cons, List.map_nil, hs, hx, hr]
  exact hK _ _ (h v' w' h2 h3 h4 h5)

/-- The longer slice of a row stands: so does the shorter one. -/
theorem own_shorter {w : World} {e g n cap : Nat} {u : Value} {xs : List Value} (h : w.ownsRow 0 e 1 (.slice (some ⟨g, 0, none⟩) (n + 1) cap) (n + 1) (xs ++ [u])) : w.ownsRow 0 e 1 (.slice (some ⟨g, 0, none⟩) n cap) n xs := by
  have hl := h.1
  simp at hl
  rcases h.2 with ⟨h, _⟩ | ⟨g', cap', cur, hv, h1, h2, h3, h4, h5, h6⟩
  · cases h
  · injection hv with e1 _ e3
    injection e1 with e1
    injection e1 with e1
    subst e1 e3
    refine ⟨by simpa using hl, .inr ⟨g, cap, cur, rfl, h1, h2, by omega, h4, h5, ?_⟩⟩
    have := congrArg (List.take n) h6
    rw [List.take_take, show min n ((n + 1) * 1) = n from by omega, List.take_append_of_le_length (by omega)] at this
    rw [Nat.mul_one, this]
    exact List.take_of_length_le (by omega)
end Go.Proofs.YtjcdclnaplojcaaGreatDoor
