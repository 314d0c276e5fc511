/- The law of a run, walked: what is pushed is taken or left, the opens are the lams, without takes there are no lookups, the name is not empty. -/
import Derived.Test.YtljkmeloleeopaaYR
import Derived.Test.YtljkmeloleeopaaDQ
namespace Go.Proofs.Ytljkmeloleeopaa
set_option linter.unusedVariables false
set_option linter.unusedSimpArgs false
open Go.RowKit

/-- All terms of an environment are terms. -/
def Env.ok : Env → Prop
  | .nil => True
  | .clo _ t e r => t.ok ∧ e.ok ∧ r.ok
  | .opn _ _ r => r.ok
/-- No closure lies in an environment. -/
def Env.bare : Env → Prop
  | .nil => True
  | .clo _ _ _ _ => False
  | .opn _ _ r => r.bare
theorem Env.ok_look (x : List UInt8) : ∀ {e : Env}, e.ok → (e.look x).ok := by
  intro e
  induction e with
  | nil => intro _; trivial
  | clo y t e r _ ihr => intro q; simp only [Env.look]; split; · exact q
                         · exact ihr q.2.2
  | opn y j r ih => intro q; simp only [Env.look]; split; · exact q
                    · exact ih q
theorem Env.bare_look (x : List UInt8) : ∀ {e : Env}, e.bare → (e.look x).bare := by
  intro e
  induction e with
  | nil => intro _; trivial
  | clo y t e r _ _ => intro q; exact absurd q (by simp [Env.bare])
  | opn y j r ih => intro q; simp only [Env.look]; split; · exact q
                    · exact ih q
/-- What stands of a state: its terms are terms; without takes nothing was looked up. -/
structure StG (S : St) (m : List Mv) : Prop where
  t : S.t.ok
  e : S.e.ok
  st : ∀ p, p ∈ S.st → p.1.ok ∧ p.2.ok
  no : mvN .t m = 0 → S.e.bare ∧ (∀ p, p ∈ S.st → p.2.bare) ∧ mvN .l m = 0
theorem StG.step {S S' : St} {m : List Mv} {k : Mv} (h : StG S m) (hs : mstep S = some (k, S')) : StG S' (m ++ [k]) := by
  have ht := h.t
  unfold mstep at hs
  split at hs
  · rename_i f a hx
    rw [hx] at ht
    injection hs with hs; injection hs with ha hb; subst ha hb
    refine ⟨ht.1, h.e, fun p hp => ?_, fun h0 => ?_⟩
    · rcases List.mem_cons.1 hp with rfl | hp
      · exact ⟨ht.2, h.e⟩
      · exact h.st p hp
    · have h0' : mvN .t m = 0 := by rw [mvN_snoc] at h0; omega
      obtain ⟨a1, a2, a3⟩ := h.no h0'
      refine ⟨a1, fun p hp => ?_, by rw [mvN_snoc, a3]; simp [Mv.code]⟩
      rcases List.mem_cons.1 hp with rfl | hp
      · exact a1
      · exact a2 p hp
  · rename_i x b hx
    rw [hx] at ht
    split at hs
    · rename_i hq
      injection hs with hs; injection hs with ha hb; subst ha hb
      have hst := h.st
      rw [hq] at hst
      have h1 := hst _ (List.mem_cons_self ..)
      exact ⟨ht.2, ⟨h1.1, h1.2, h.e⟩, fun p hp => hst p (List.mem_cons_of_mem _ hp), fun h0 => by rw [mvN_snoc] at h0; simp at h0⟩
    · rename_i hq
      injection hs with hs; injection hs with ha hb; subst ha hb
      refine ⟨ht.2, h.e, (fun p hp => by cases hp), fun h0 => ?_⟩
      have h0' : mvN .t m = 0 := by rw [mvN_snoc] at h0; omega
      obtain ⟨a1, a2, a3⟩ := h.no h0'
      exact ⟨a1, (fun p hp => by cases hp), by rw [mvN_snoc, a3]; simp [Mv.code]⟩
  · rename_i x hx
    split at hs
    · rename_i y t e' r hq
      injection hs with hs; injection hs with ha hb; subst ha hb
      have h1 := Env.ok_look x h.e
      rw [hq] at h1
      refine ⟨h1.1, h1.2.1, h.st, fun h0 => ?_⟩
      have h0' : mvN .t m = 0 := by rw [mvN_snoc] at h0; omega
      have h2 := Env.bare_look x (h.no h0').1
      rw [hq] at h2
      exact absurd h2 (by simp [Env.bare])
    · cases hs
theorem mrun_g : ∀ (f : Nat) (S : St) (m : List Mv) (S' : St) (m' : List Mv), StG S m → mrun f S m = some (S', m') → StG S' m' := by
  intro f
  induction f with
  | zero =>
    intro S m S' m' h hr
    unfold mrun at hr
    split at hr
    · injection hr with hr; injection hr with h1 h2; subst h1 h2; exact h
    · cases hr
  | succ f ih =>
    intro S m S' m' h hr
    unfold mrun at hr
    split at hr
    · injection hr with hr; injection hr with h1 h2; subst h1 h2; exact h
    · rename_i k S2 hk
      exact ih _ _ _ _ (h.step hk) hr
/-- What is true of every run. -/
theorem mcR_law {s : List UInt8} {S : St} {m : List Mv} (h : mcR s = some (S, m)) : S.name ≠ [] ∧ S.st.length + mvN .t m = mvN .p m ∧ (mvN .t m = 0 → mvN .l m = 0) := by
  have hok := (mcR_ok h).1
  unfold mcR at h
  split at h
  · cases h
  · rename_i t ht
    have hg0 : StG ⟨t, .nil, [], 0⟩ [] := ⟨(rdTerm_good _ _ ht).1, trivial, (fun p hp => by cases hp), fun _ => ⟨trivial, (fun p hp => by cases hp), rfl⟩⟩
    have hg := mrun_g 3000 _ _ _ _ hg0 h
    obtain ⟨x, hx⟩ := mstep_var (mrun_ok 3000 _ _ _ _ (StOk.start t) h).2.1
    refine ⟨?_, hok.st, fun h0 => (hg.no h0).2.2⟩
    have h1 := hg.t
    rw [hx] at h1
    unfold St.name
    rw [hx]
    exact isNm_ne x h1

theorem gq_low {B : Nat} {a w w' : World} {r : Nat} (h : Below B a w) (hg : w.grownBy w' (some r)) (hB : B ≤ w.heap.size) (hr : B ≤ r) : Below B a w' :=
  h.grown hg hB (fun k e => by injection e with e; omega)

set_option maxRecDepth 100000 in
set_option maxHeartbeats 2000000 in
theorem drawMachineRun_any (b off n c : Nat) (A : Option Addr) (w : World) (h : CodeAt w b off n A) (hn : n ≤ 1048576) (hc : n ≤ c) (hc2 : c ≤ maxLen) :
    Calls Try.prog 8 #[.slice A n c] w fun e w' => ∃ y : List UInt8, e = .returned (.string ⟨y.toArray⟩) ∧ y.length ≤ 400 ∧ Below w.heap.size w w' := by
  have HO := Lib.hid (l6Open_any b off n c A w h hn hc hc2)
  clear h hc hc2
  go_enter Try.func8, Try.ntmps8
  go_wp2_with fail
  refine HO.out.mono ?_
  rintro e w1 ⟨m, c', rfl, hr1, hb1⟩
  have hs1 := hb1.size
  have hlt1 := hr1.lt
  have HB1 := Lib.hid hb1
  have HD := Lib.hid (l91Odd_any w.heap.size b off m c' 0 A w1 hr1 (by omega))
  clear hr1 hb1
  go_wp2_with fail
  refine HD.out.mono ?_
  rintro e w3 ⟨y, q3, rfl, hy, ha3, hb3, hr3, hg3⟩
  have HB3 := Lib.hid (gq_low HB1.out hg3 (by omega) (Nat.le_refl _))
  clear hr3 hg3
  go_wp2_with fail
  go_ret
  exact ⟨y, rfl, hy, HB3.out⟩

set_option maxRecDepth 100000 in
theorem sameRun_same (p t o l : Nat) (x : List UInt8) (a s : Nat) (w : World) :
    Calls Try.prog 11 #[.agg #[.int .i64 p, .int .i64 t, .int .i64 o, .int .i64 l, .string ⟨x.toArray⟩, .int .i64 a, .int .i64 s], .agg #[.int .i64 p, .int .i64 t, .int .i64 o, .int .i64 l, .string ⟨x.toArray⟩, .int .i64 a, .int .i64 s]] w fun q w' => q = .returned (.bool true) ∧ Below w.heap.size w w' := by
  go_enter Try.func11, Try.ntmps11
  go_wp2_with fail
  go_ret
  exact ⟨rfl, ((Below.refl _ _).alloc (Nat.le_refl _) _).alloc (by simp) _⟩

set_option maxRecDepth 100000 in
set_option maxHeartbeats 4000000 in
theorem runLaw_walk (b off n c : Nat) (A : Option Addr) (w : World) (h : CodeAt w b off n A) (hc : n ≤ c) (hc2 : c ≤ maxLen) :
    Calls Try.prog 3 #[.slice A n c] w fun e w' => e = .returned (.bool true) ∧ Below w.heap.size w w' := by
  by_cases hn : n ≤ 1048576
  · have HD := Lib.hid (drawMachineRun_any b off n c A w h hn hc hc2)
    unfold maxLen at hc2
    clear h
    go_enter Try.func3, Try.ntmps3
    go_wp2_with fail
    refine HD.out.mono ?_
    rintro e w1 ⟨y, rfl, hy, hb1⟩
    have hz1 := hb1.size
    have HB1 := Lib.hid hb1
    have hym : (⟨y.toArray⟩ : ByteArray).size ≤ maxLen := by simp only [ByteArray.size, List.size_toArray]; unfold maxLen; omega
    have hys : (⟨y.toArray⟩ : ByteArray).size ≤ 400 := by simp only [ByteArray.size, List.size_toArray]; omega
    have IM := Lib.hid (fun w' => implMachineRun_any ⟨y.toArray⟩ w' hym)
    have SP := Lib.hid (fun w' => specMachineRun_any ⟨y.toArray⟩ w' hym)
    have hyl : (⟨y.toArray⟩ : ByteArray).data.toList = y := rfl
    rw [hyl] at IM SP
    clear hb1 hyl hym
    cases hr : mcR y with
    | none =>
      rw [hr] at IM SP
      have S2 := Lib.hid SP.out
      have I2 := Lib.hid IM.out
      clear SP IM hr
      simp only [rnE, rnV] at S2 I2
      go_wp2_with fail
      refine (I2.out _).mono ?_
      rintro e w2 ⟨rfl, hb2⟩
      have HB2 := Lib.hid (HB1.out.trans (hb2.mono hz1))
      have hz2 := HB2.out.size
      clear hb2
      go_wp2_with fail
      refine (S2.out _).mono ?_
      rintro e w3 ⟨rfl, hb3⟩
      have hr3 := (Blk.new w2 25 #[.int .i64 0, .int .i64 0, .int .i64 0, .int .i64 0, .string ⟨#[]⟩, .int .i64 0, .int .i64 0]).below hb3 (by simp)
      have r0 := hr3.cell 0
      have r1 := hr3.cell 1
      have r2 := hr3.cell 2
      have r3 := hr3.cell 3
      have r4 := hr3.cell 4
      have r5 := hr3.cell 5
      have r6 := hr3.cell 6
      have rl := hr3.lt
      simp only [List.getElem?_toArray, List.getElem?_cons_zero, List.getElem?_cons_succ] at r0 r1 r2 r3 r4 r5 r6
      have HB3 := Lib.hid ((HB2.out.alloc hz2 _).trans (hb3.mono (by simp; omega)))
      have hz3 := HB3.out.size
      have HR3 := Lib.hid hr3
      have HW : Hid (∀ o : Obj, o = .cells #[.int .i64 0, .int .i64 0, .int .i64 0, .int .i64 0, .string ⟨#[]⟩, .int .i64 0, .int .i64 0] 25 → ∀ w4, Below (w3.alloc o).heap.size (w3.alloc o) w4 → Blk w4 w2.heap.size 25 #[.int .i64 0, .int .i64 0, .int .i64 0, .int .i64 0, .string ⟨#[]⟩, .int .i64 0, .int .i64 0] ∧ Blk w4 w3.heap.size 25 #[.int .i64 0, .int .i64 0, .int .i64 0, .int .i64 0, .string ⟨#[]⟩, .int .i64 0, .int .i64 0]) := Lib.hid (fun o ho w4 h4 => by
        subst ho
        exact ⟨(HR3.out.alloc _).below h4 (by simp; have := HR3.out.lt; omega), (Blk.new w3 _ _).below h4 (by simp)⟩)
      clear hb3 hr3
      go_wp2_with fail
      refine (sameRun_same 0 0 0 0 [] 0 0 _).mono ?_
      rintro e w4 ⟨rfl, hb4⟩
      obtain ⟨g4, g5⟩ := HW.out _ rfl w4 hb4
      have HB4 := Lib.hid ((HB3.out.alloc hz3 _).trans (hb4.mono (by simp; omega)))
      have hz4 := HB4.out.size
      have s0 := g4.cell 0
      have s1 := g4.cell 1
      have s2 := g4.cell 2
      have s3 := g4.cell 3
      have s4 := g4.cell 4
      have s5 := g4.cell 5
      have s6 := g4.cell 6
      have sl := g4.lt
      have v0 := g5.cell 0
      have v1 := g5.cell 1
      have v2 := g5.cell 2
      have v3 := g5.cell 3
      have v4 := g5.cell 4
      have v5 := g5.cell 5
      have v6 := g5.cell 6
      have vl := g5.lt
      simp only [List.getElem?_toArray, List.getElem?_cons_zero, List.getElem?_cons_succ] at s0 s1 s2 s3 s4 s5 s6 v0 v1 v2 v3 v4 v5 v6
      clear g4 g5 hb4
      go_wp2_with fail
      refine (sameRun_same 0 0 0 0 [] 0 0 _).mono ?_
      rintro e w5 ⟨rfl, hb5⟩
      have HB5 := Lib.hid (HB4.out.trans (hb5.mono hz4))
      clear hb5
      go_wp2_with fail
      go_ret
      exact ⟨rfl, HB5.out⟩
    | some p =>
      obtain ⟨S, m⟩ := p
      have hml := (mcR_ok hr).2
      have hsum := mvN_sum m
      obtain ⟨l1, l2, l3⟩ := mcR_law hr
      rw [hr] at IM SP
      have S2 := Lib.hid SP.out
      have I2 := Lib.hid IM.out
      clear SP IM hr
      simp only [rnE, rnV] at S2 I2
      generalize mvN .p m = np at *
      generalize mvN .t m = nt at *
      generalize mvN .o m = no at *
      generalize mvN .l m = nl at *
      generalize S.name = nm at *
      generalize S.st.length = na at *
      have q0 : ((np : Int) == (nt : Int) + (na : Int)) = true := beq_iff_eq.2 (by omega)
      have q1 : nt ≤ 3000 := by omega
      have q2 : na ≤ 3000 := by omega
      have hnm : (nm == ([] : List UInt8)) = false := beq_eq_false_iff_ne.2 l1
      have q3 : (nt = 0 ∧ nl = 0) ∨ 0 < nt := by by_cases h : nt = 0; · exact .inl ⟨h, l3 h⟩
                                                 · exact .inr (by omega)
      have HL2 := Lib.hid l2
      clear hml hsum l1 l2 l3
      go_wp2_with fail
      refine (I2.out _).mono ?_
      rintro e w2 ⟨rfl, hb2⟩
      have HB2 := Lib.hid (HB1.out.trans (hb2.mono hz1))
      have hz2 := HB2.out.size
      clear hb2
      go_wp2_with fail
      refine (S2.out _).mono ?_
      rintro e w3 ⟨rfl, hb3⟩
      have hr3 := (Blk.new w2 25 #[.int .i64 (np : Nat), .int .i64 (nt : Nat), .int .i64 (no : Nat), .int .i64 (nl : Nat), .string ⟨nm.toArray⟩, .int .i64 (na : Nat), .int .i64 (no : Nat)]).below hb3 (by simp)
      have r0 := hr3.cell 0
      have r1 := hr3.cell 1
      have r2 := hr3.cell 2
      have r3 := hr3.cell 3
      have r4 := hr3.cell 4
      have r5 := hr3.cell 5
      have r6 := hr3.cell 6
      have rl := hr3.lt
      simp only [List.getElem?_toArray, List.getElem?_cons_zero, List.getElem?_cons_succ] at r0 r1 r2 r3 r4 r5 r6
      have HB3 := Lib.hid ((HB2.out.alloc hz2 _).trans (hb3.mono (by simp; omega)))
      have hz3 := HB3.out.size
      have HR3 := Lib.hid hr3
      have HW : Hid (∀ o : Obj, o = .cells #[.int .i64 (np : Nat), .int .i64 (nt : Nat), .int .i64 (no : Nat), .int .i64 (nl : Nat), .string ⟨nm.toArray⟩, .int .i64 (na : Nat), .int .i64 (no : Nat)] 25 → ∀ w4, Below (w3.alloc o).heap.size (w3.alloc o) w4 → Blk w4 w2.heap.size 25 #[.int .i64 (np : Nat), .int .i64 (nt : Nat), .int .i64 (no : Nat), .int .i64 (nl : Nat), .string ⟨nm.toArray⟩, .int .i64 (na : Nat), .int .i64 (no : Nat)] ∧ Blk w4 w3.heap.size 25 #[.int .i64 (np : Nat), .int .i64 (nt : Nat), .int .i64 (no : Nat), .int .i64 (nl : Nat), .string ⟨nm.toArray⟩, .int .i64 (na : Nat), .int .i64 (no : Nat)]) := Lib.hid (fun o ho w4 h4 => by
        subst ho
        exact ⟨(HR3.out.alloc _).below h4 (by simp; have := HR3.out.lt; omega), (Blk.new w3 _ _).below h4 (by simp)⟩)
      clear hb3 hr3
      go_wp2_with fail
      refine (sameRun_same np nt no nl nm na no _).mono ?_
      rintro e w4 ⟨rfl, hb4⟩
      obtain ⟨g4, g5⟩ := HW.out _ rfl w4 hb4
      have HB4 := Lib.hid ((HB3.out.alloc hz3 _).trans (hb4.mono (by simp; omega)))
      have hz4 := HB4.out.size
      have s0 := g4.cell 0
      have s1 := g4.cell 1
      have s2 := g4.cell 2
      have s3 := g4.cell 3
      have s4 := g4.cell 4
      have s5 := g4.cell 5
      have s6 := g4.cell 6
      have sl := g4.lt
      have v0 := g5.cell 0
      have v1 := g5.cell 1
      have v2 := g5.cell 2
      have v3 := g5.cell 3
      have v4 := g5.cell 4
      have v5 := g5.cell 5
      have v6 := g5.cell 6
      have vl := g5.lt
      simp only [List.getElem?_toArray, List.getElem?_cons_zero, List.getElem?_cons_succ] at s0 s1 s2 s3 s4 s5 s6 v0 v1 v2 v3 v4 v5 v6
      clear g4 g5 hb4
      rcases q3 with ⟨rfl, rfl⟩ | q3
      · have q4 : ((np : Int) == (na : Int)) = true := beq_iff_eq.2 (by have := HL2.out; omega)
        go_wp2_with fail
        go_ret
        exact ⟨rfl, HB4.out⟩
      · go_wp2_with fail
        go_ret
        exact ⟨rfl, HB4.out⟩
  · go_enter Try.func3, Try.ntmps3
    go_wp2
    go_ret
    exact ⟨rfl, Below.refl _ _⟩
end Go.Proofs.Ytljkmeloleeopaa
