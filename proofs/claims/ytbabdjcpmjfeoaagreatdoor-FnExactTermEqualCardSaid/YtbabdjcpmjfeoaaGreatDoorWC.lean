/- Small facts of names and of terms in memory. -/
import Derived.Test.YtbabdjcpmjfeoaaGreatDoorWB
import Derived.Test.YtbabdjcpmjfeoaaGreatDoorW0
import Derived.Test.YtbabdjcpmjfeoaaGreatDoorC1
namespace Go.Proofs.YtbabdjcpmjfeoaaGreatDoor
set_option linter.unusedVariables false
open Go.RowKit

theorem Blk.ne2 {w : World} {q k : Nat} {t u : TypeId} {cs ds : Array Value} (h : Blk w q t cs) (h2 : Blk w k u ds) (hne : t ≠ u) : q ≠ k := by
  rintro rfl
  have h1 : w.heap[q]? = some (.cells cs t (0, 0)) := h
  have h3 : w.heap[q]? = some (.cells ds u (0, 0)) := h2
  rw [h1] at h3
  injection h3 with h3
  injection h3 with _ h4
  exact hne h4

theorem z_bytes (l : List UInt8) : (ByteArray.mk #[122]) ++ (ByteArray.mk l.toArray) = ⟨(122 :: l).toArray⟩ := by
  apply WideShapes.bytes_inj
  simp [ByteArray.data_append]

theorem dec_le (u : Nat) : (Lib.decDigits u).length ≤ u + 1 := by
  induction u using Nat.strongRecOn with
  | _ u ih =>
    by_cases h : u < 10
    · rw [Lib.decDigits, dif_pos h]; simp
    · rw [Lib.decDigits, dif_neg h, List.length_append]
      have := ih (u / 10) (by omega)
      simp
      omega

/-- A term lies in memory, wherever. -/
abbrev DTm (w : World) (d : DB) (v : Value) : Prop := DAt w (fun _ => True) d v
theorem DAt.any {w : World} {P Q : Nat → Prop} (h : ∀ q cs, Blk w q 93 cs → Q q) : ∀ {t : DB} {v : Value}, DAt w P t v → DAt w Q t v := by
  intro t
  induction t with
  | free x => rintro v ⟨b, rfl, hb, hl, hk⟩; exact ⟨b, rfl, h _ _ hk, hl, hk⟩
  | bnd i => rintro v ⟨b, rfl, hb, hk⟩; exact ⟨b, rfl, h _ _ hk, hk⟩
  | lam x d ih => rintro v ⟨b, c, rfl, hb, hl, hk, hd⟩; exact ⟨b, c, rfl, h _ _ hk, hl, hk, ih hd⟩
  | app f a ihf iha => rintro v ⟨b, c, d, rfl, hb, hk, hf, ha⟩; exact ⟨b, c, d, rfl, h _ _ hk, hk, ihf hf, iha ha⟩
theorem DAt.tm {w : World} {P : Nat → Prop} {t : DB} {v : Value} (h : DAt w P t v) : DTm w t v := h.any fun _ _ _ => trivial
theorem DAt.low {w : World} {P : Nat → Prop} {t : DB} {v : Value} (h : DAt w P t v) : DAt w (fun q => q < w.heap.size) t v := h.any fun _ _ hk => hk.lt
theorem DAt.far2 {w w' : World} {P : Nat → Prop} {t : DB} {v : Value} (h : DAt w P t v) {k : Nat} {u : TypeId} {ds : Array Value} (hk : Blk w k u ds) (hu : 93 ≠ u) (hg : w.grownBy w' (some k)) : DAt w' P t v :=
  h.keep fun q cs hq => hq.grown hg (fun e => hq.ne2 hk hu (Option.some.inj e))
theorem DAt.below2 {w w' : World} {P : Nat → Prop} {t : DB} {v : Value} (h : DAt w P t v) (hb : Below w.heap.size w w') : DAt w' P t v := h.keep fun q cs hq => hq.below hb hq.lt

theorem renD_next (fr : List (List UInt8)) (hf : fr.length ≤ 999) (d : DB) : ∀ n, (renD fr d n).2 ≤ n + d.size * 1000 := by
  induction d with
  | free x => intro n; exact Nat.le_add_right _ _
  | bnd i => intro n; exact Nat.le_add_right _ _
  | lam x b ih => intro n; have h1 := ih (fresh fr n + 1); have h2 := (fresh_spec fr n).2.1; simp only [renD, DB.size]; omega
  | app f a ihf iha => intro n; have h1 := ihf n; have h2 := iha (renD fr f n).2; simp only [renD, DB.size]; omega

theorem SRow.far2 {w w' : World} {base : Nat} {v : Value} {l : List (List UInt8)} (h : SRow w base v l) {k : Nat} {u : TypeId} {ds : Array Value} (hk : Blk w k u ds) (hu : u ≠ 9) (hg : w.grownBy w' (some k)) : SRow w' base v l :=
  h.kept hg (by
    cases h1 : v.ownBlock with
    | none => exact .inl rfl
    | some q => exact .inr fun e => row_not hk h hu (by rw [h1]; exact e.symm))
theorem dec_len : ∀ (k u : Nat), u < 10 ^ (k + 1) → (Lib.decDigits u).length ≤ k + 1
  | 0, u, h => by rw [Lib.decDigits, dif_pos (by simpa using h)]; simp
  | k + 1, u, h => by
    by_cases h1 : u < 10
    · rw [Lib.decDigits, dif_pos h1]; simp
    · rw [Lib.decDigits, dif_neg h1, List.length_append]
      rw [Nat.pow_succ] at h
      have := dec_len k (u / 10) (by omega)
      simp
      omega
theorem zN_short (k : Nat) (h : k ≤ 1000000) : (zN k).length ≤ 8000 := by have := dec_len 6 k (by omega); simp only [zN, List.length_cons]; omega

end Go.Proofs.YtbabdjcpmjfeoaaGreatDoor
