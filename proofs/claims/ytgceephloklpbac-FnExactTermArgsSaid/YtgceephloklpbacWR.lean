/- The program writes a term. -/
import Derived.Test.YtgceephloklpbacWA
import Derived.Test.YtgceephloklpbacP
namespace Go.Proofs.Ytgceephloklpbac
set_option linter.unusedVariables false
open Go.RowKit
attribute [local go_sem ↓] Go.wp_at_zero Go.wp_at_succ

theorem write_free (x : List UInt8) : WrSaid (.free x) := by
  rintro v w P sc rs B b l ⟨b', rfl, hbP, hx, hb'⟩ hsc hbl hB hcl hsz hlen
  have k0 := hb'.cell 0
  have k1 := hb'.cell 1
  simp at k0 k1
  obtain ⟨A, c, rfl⟩ := own_shape hsc
  have HS := Lib.hid hsc
  have HBL := Lib.hid hbl
  have hlen' : l.length ≤ 1000000 := by omega
  clear hsc hbl hb' hlen
  go_enter Try.func53, Try.ntmps53
  go_wp2_with fail
  refine (writeString_any B b l ⟨x.toArray⟩ _ HBL.out hlen' (by simp [ByteArray.size]; omega) hB).mono ?_
  rintro e w1 ⟨rfl, h1, h2, h3⟩
  have H1 := Lib.hid h1
  have H2 := Lib.hid h2
  have H3 := Lib.hid h3
  clear h1 h2 h3
  go_wp2_with fail
  go_end0
  refine ⟨rfl, ?_, HS.out.wrote HBL.out H3.out, WFr.wrote _ H2.out H3.out⟩
  exact H1.out

theorem write_bnd (i : Nat) : WrSaid (.bnd i) := by
  rintro v w P sc rs B b l ⟨b', rfl, hbP, hb'⟩ hsc hbl hB hcl hsz hlen
  have k0 := hb'.cell 0
  have k2 := hb'.cell 2
  simp at k0 k2
  have hi : i < rs.length := hcl
  obtain ⟨A, c, rfl⟩ := own_shape hsc
  obtain ⟨g, rfl, _, hcell⟩ := hsc.cell hi
  have HS := Lib.hid hsc
  have HBL := Lib.hid hbl
  have hrs : rs.length ≤ 2000 := by omega
  have hw : wrD rs (.bnd i) = rs[i] := by simp only [wrD]; rw [List.getElem?_eq_getElem hi]; rfl
  rw [hw] at hlen
  have HW := Lib.hid hw
  have hl1 : l.length ≤ 1000000 := by omega
  have hl2 : (ByteArray.mk (rs[i]).toArray).size ≤ 1000000 := by simp [ByteArray.size]; omega
  clear hsc hbl hb' hcl hlen hw
  go_enter Try.func53, Try.ntmps53
  go_wp2_with fail
  refine (writeString_any B b l ⟨(rs[i]).toArray⟩ _ HBL.out hl1 hl2 hB).mono ?_
  rintro e w1 ⟨rfl, h1, h2, h3⟩
  have H1 := Lib.hid h1
  have H2 := Lib.hid h2
  have H3 := Lib.hid h3
  clear h1 h2 h3
  go_wp2_with fail
  go_end0
  refine ⟨rfl, ?_, HS.out.wrote HBL.out H3.out, WFr.wrote _ H2.out H3.out⟩
  rw [HW.out]
  exact H1.out

/-- The last step that a text of the program's own is written. -/
theorem WrPost.more {B b : Nat} {l x : List UInt8} {sc : Value} {rs : List (List UInt8)} {w w1 w2 : World} (h : WFr B b sc.ownBlock w w1) (hb : Bld B b l w1) (hs : Scope w1 sc rs) (h1 : Bld B b (l ++ x) w2) (h2 : Below B w1 w2) (h3 : Oth b w1 w2) :
    Bld B b (l ++ x) w2 ∧ Scope w2 sc rs ∧ WFr B b sc.ownBlock w w2 := ⟨h1, hs.wrote hb h3, h.trans (WFr.wrote _ h2 h3)⟩

/-- A state on the way: so much is written. -/
structure WSt (B b : Nat) (sc : Value) (rs : List (List UInt8)) (w : World) (l : List UInt8) (w1 : World) : Prop where
  bld : Bld B b l w1
  scope : Scope w1 sc rs
  fr : WFr B b sc.ownBlock w w1
theorem WSt.size {B b : Nat} {sc : Value} {rs : List (List UInt8)} {w : World} {l : List UInt8} {w1 : World} (h : WSt B b sc rs w l w1) (hB : B ≤ w.heap.size) : B ≤ w1.heap.size := Nat.le_trans hB h.fr.size
/-- A text is written. -/
theorem WSt.text {B b : Nat} {sc : Value} {rs : List (List UInt8)} {w : World} {l : List UInt8} {w1 : World} (h : WSt B b sc rs w l w1) (hB : B ≤ w.heap.size) (x : List UInt8) (hl : l.length ≤ 1000000) (hx : x.length ≤ 1000000) :
    Calls Try.prog 62 #[.pointer (some ⟨b, 0, none⟩), .string ⟨x.toArray⟩] w1 fun e w2 => e = .returned (.tuple #[.int .i64 (ByteArray.mk x.toArray).size, .nilIface]) ∧ WSt B b sc rs w (l ++ x) w2 := by
  refine (writeString_any B b l ⟨x.toArray⟩ w1 h.bld hl (by simpa [ByteArray.size] using hx) (h.size hB)).mono ?_
  rintro e w2 ⟨rfl, h1, h2, h3⟩
  rw [toNil] at h1
  exact ⟨rfl, h1, h.scope.wrote h.bld h3, h.fr.trans (WFr.wrote _ h2 h3)⟩
/-- A term is written. -/
theorem WSt.term {B b : Nat} {sc : Value} {rs : List (List UInt8)} {w : World} {l : List UInt8} {w1 : World} (h : WSt B b sc rs w l w1) (hB : B ≤ w.heap.size) {d : DB} (ih : WrSaid d) {v : Value} {P : Nat → Prop} (hd : DAt w P d v) {l0 : List UInt8} (hb0 : Bld B b l0 w) (hs0 : Scope w sc rs)
    (hcl : d.cl rs.length) (hsz : rs.length + d.size ≤ 2000) (hlen : l.length + (wrD rs d).length ≤ 1000000) :
    Calls Try.prog 53 #[v, .pointer (some ⟨b, 0, none⟩), sc] w1 fun e w2 => e = .returned (.tuple #[]) ∧ WSt B b sc rs w (l ++ wrD rs d) w2 := by
  refine (ih v w1 P sc rs B b l (h.fr.dat hb0 hs0 hd) h.scope h.bld (h.size hB) hcl hsz hlen).mono ?_
  rintro e w2 ⟨rfl, h1, h2, h3⟩
  exact ⟨rfl, h1, h2, h.fr.trans h3⟩

set_option maxRecDepth 100000 in
theorem write_app (f a : DB) (ihf : WrSaid f) (iha : WrSaid a) : WrSaid (.app f a) := by
  rintro v w P sc rs B b l ⟨b', cb, db, rfl, hbP, hb', hf, ha⟩ hsc hbl hB hcl hsz hlen
  have k0 := hb'.cell 0
  have k3 := hb'.cell 3
  simp at k0 k3
  obtain ⟨A, c, rfl⟩ := own_shape hsc
  have hS0 := Lib.hid (⟨hbl, hsc, WFr.refl _ _ _ _⟩ : WSt B b (.slice A rs.length c) rs w l w)
  have HS := Lib.hid hsc
  have HBL := Lib.hid hbl
  have HB' := Lib.hid hb'
  have HF := Lib.hid hf
  have HA := Lib.hid ha
  have HCL := Lib.hid hcl
  have IHF := Lib.hid ihf
  have IHA := Lib.hid iha
  have HE : Hid (wrD rs (.app f a) = [40, 97, 112, 112, 32] ++ wrD rs f ++ [32] ++ wrD rs a ++ [41]) := Lib.hid rfl
  have hlen' : l.length + (wrD rs f).length + (wrD rs a).length + 7 ≤ 1000000 := by rw [HE.out] at hlen; simp at hlen; omega
  have hsz' : rs.length + f.size + a.size + 1 ≤ 2000 := by simp only [DB.size] at hsz; omega
  clear hsc hbl hb' hf ha hcl ihf iha hlen hsz
  go_enter Try.func53, Try.ntmps53
  go_wp2_with fail
  refine (hS0.out.text hB [40, 97, 112, 112, 32] (by omega) (by simp)).mono ?_
  rintro e w1 ⟨rfl, h1⟩
  have HS1 := Lib.hid h1
  have j3 := (h1.fr.blk HBL.out HS.out HB'.out).cell 3
  simp at j3
  clear h1
  go_wp2_with fail
  refine (HS1.out.term hB IHF.out HF.out HBL.out HS.out HCL.out.1 (by omega) (by simp; omega)).mono ?_
  rintro e w2 ⟨rfl, h2⟩
  have HS2 := Lib.hid h2
  have j4 := (h2.fr.blk HBL.out HS.out HB'.out).cell 4
  simp at j4
  clear h2
  go_wp2_with fail
  refine (HS2.out.text hB [32] (by simp; omega) (by simp)).mono ?_
  rintro e w3 ⟨rfl, h3⟩
  have HS3 := Lib.hid h3
  have j4' := (h3.fr.blk HBL.out HS.out HB'.out).cell 4
  simp at j4'
  clear h3
  go_wp2_with fail
  refine (HS3.out.term hB IHA.out HA.out HBL.out HS.out HCL.out.2 (by omega) (by simp; omega)).mono ?_
  rintro e w4 ⟨rfl, h4⟩
  have HS4 := Lib.hid h4
  clear h4
  go_wp2_with fail
  refine (HS4.out.text hB [41] (by simp; omega) (by simp)).mono ?_
  rintro e w5 ⟨rfl, h5⟩
  have HS5 := Lib.hid h5
  clear h5
  go_wp2_with fail
  go_end0
  refine ⟨rfl, ?_, HS5.out.scope, HS5.out.fr⟩
  have := HS5.out.bld
  rw [HE.out]
  simpa using this
theorem WFr.scope {B b : Nat} {r : Option Nat} {w w' : World} (h : WFr B b r w w') {l : List UInt8} (hb : Bld B b l w) {sc : Value} {rs : List (List UInt8)} (hs : Scope w sc rs) (hne : sc.ownBlock = none ∨ sc.ownBlock ≠ r) : Scope w' sc rs := by
  obtain ⟨h1, h2⟩ := hs
  refine ⟨h1, ?_⟩
  rcases h2 with h2 | ⟨g, cap, cur, rfl, hg, hh, q⟩
  · exact .inl h2
  · have hk : Blk w g 9 cur := hh
    refine .inr ⟨g, cap, cur, rfl, hg, h.ot g _ hh (hb.ne hk (by decide)) ?_ (fun c fz e => by injection e with _ e; exact absurd e (by decide)), q⟩
    rcases hne with hne | hne
    · simp [Value.ownBlock] at hne
    · exact hne
theorem WSt.inner {B b : Nat} {sc sc2 : Value} {rs : List (List UInt8)} {w w3 w4 w5 : World} {l l' : List UInt8} {x : List UInt8} {o : Obj} (h : WSt B b sc rs w l w3) (hB : B ≤ w.heap.size) (hold2 : Scope w4 sc rs) (hg2 : ((w3.alloc o).drew).grownBy w4 sc.ownBlock)
    (hat2 : (∃ g cap, sc = .slice (some ⟨g, 0, none⟩) rs.length cap ∧ sc2 = .slice (some ⟨g, 0, none⟩) (rs.length + 1) cap) ∨ (sc2.ownBlock = some ((w3.alloc o).drew).heap.size ∧ ((w3.alloc o).drew).grownBy w4 none))
    (hb5 : Bld B b l' w5) (hs5 : Scope w5 sc2 (x :: rs)) (hf5 : WFr B b sc2.ownBlock w4 w5) : WSt B b sc rs w l' w5 := by
  have hB3 : B ≤ w3.heap.size := h.size hB
  have hW : WFr B b sc.ownBlock w3 (w3.alloc o).drew := WFr.grown hB3 (by have := World.grownBy_alloc w3 o sc.ownBlock; exact ⟨this.os, this.tape, this.output, this.size, this.block⟩)
  have hB4 : B ≤ (w3.alloc o).drew.heap.size := by simp only [World.size_drew, World.size_alloc]; omega
  rcases hat2 with ⟨g, cap, rfl, rfl⟩ | ⟨h1, h2⟩
  · refine ⟨hb5, ?_, h.fr.trans (hW.trans ((WFr.grown hB4 hg2).trans hf5))⟩
    unfold Scope at hs5 ⊢
    rw [scope_snoc] at hs5
    exact own_shorter hs5
  · rw [h1] at hf5
    have hb4 : Bld B b l w4 := ((h.bld.alloc o).drew).grown ((h.scope.alloc o).drew) hg2
    refine ⟨hb5, ?_, h.fr.trans (hW.trans (WFr.newer h2 hB4 (Nat.le_refl _) hf5))⟩
    refine hf5.scope hb4 hold2 ?_
    cases hv : sc.ownBlock with
    | none => exact .inl rfl
    | some q =>
      right
      intro e
      injection e with e
      have := (h.scope.lt q hv).2
      simp only [World.size_drew, World.size_alloc] at e
      omega

set_option maxRecDepth 100000 in
set_option maxHeartbeats 2000000 in
theorem write_lam (x : List UInt8) (d : DB) (ih : WrSaid d) : WrSaid (.lam x d) := by
  rintro v w P sc rs B b l ⟨b', cb, rfl, hbP, hx, hb', hd⟩ hsc hbl hB hcl hsz hlen
  have k0 := hb'.cell 0
  simp at k0
  obtain ⟨A, c, rfl⟩ := own_shape hsc
  have hS0 := Lib.hid (⟨hbl, hsc, WFr.refl _ _ _ _⟩ : WSt B b (.slice A rs.length c) rs w l w)
  have HS := Lib.hid hsc
  have HBL := Lib.hid hbl
  have HB' := Lib.hid hb'
  have HD := Lib.hid hd
  have HCL := Lib.hid hcl
  have IH := Lib.hid ih
  obtain ⟨i0, hinf, hz0, hzs, hzb⟩ := info_parts Try.infoStr
  have HE : Hid (wrD rs (.lam x d) = [40, 108, 97, 109, 32] ++ x ++ [32] ++ wrD (x :: rs) d ++ [41]) := Lib.hid rfl
  have hlen' : l.length + x.length + (wrD (x :: rs) d).length + 7 ≤ 1000000 := by rw [HE.out] at hlen; simp at hlen; omega
  have hsz' : rs.length + d.size + 1 ≤ 2000 := by simp only [DB.size] at hsz; omega
  clear hsc hbl hb' hd hcl ih hlen hsz
  go_enter Try.func53, Try.ntmps53
  go_wp2_with fail
  refine (hS0.out.text hB [40, 108, 97, 109, 32] (by omega) (by simp)).mono ?_
  rintro e w1 ⟨rfl, h1⟩
  have HS1 := Lib.hid h1
  have j1 := (h1.fr.blk HBL.out HS.out HB'.out).cell 1
  simp at j1
  clear h1
  go_wp2_with fail
  refine (HS1.out.text hB x (by simp; omega) (by omega)).mono ?_
  rintro e w2 ⟨rfl, h2⟩
  have HS2 := Lib.hid h2
  clear h2
  go_wp2_with fail
  refine (HS2.out.text hB [32] (by simp; omega) (by simp)).mono ?_
  rintro e w3 ⟨rfl, h3⟩
  have HS3 := Lib.hid h3
  have hk3 := h3.fr.blk HBL.out HS.out HB'.out
  have j3 := hk3.cell 3
  have j31 := hk3.cell 1
  have jl := hk3.lt
  have hne := row_not hk3 h3.scope (by decide)
  simp at j3 j31
  have C1 : Hid (∀ (o : Obj) (sc2 : Value) (w4 : World), w4.ownsRow 0 9 1 sc2 (rs.length + 1) (rs.reverse.map strV ++ [.string ⟨x.toArray⟩]) → Scope w4 (.slice A rs.length c) rs → ((w3.alloc o).drew).grownBy w4 (Value.slice A rs.length c).ownBlock →
      ((∃ g cap, Value.slice A rs.length c = .slice (some ⟨g, 0, none⟩) rs.length cap ∧ sc2 = .slice (some ⟨g, 0, none⟩) (rs.length + 1) cap) ∨ (sc2.ownBlock = some ((w3.alloc o).drew).heap.size ∧ ((w3.alloc o).drew).grownBy w4 none)) →
      Calls Try.prog 53 #[.pointer (some ⟨cb, 0, none⟩), .pointer (some ⟨b, 0, none⟩), sc2] w4 fun e w5 => e = .returned (.tuple #[]) ∧ WSt B b (.slice A rs.length c) rs w (l ++ [40, 108, 97, 109, 32] ++ x ++ [32] ++ wrD (x :: rs) d) w5 ∧
        w5.cell? ⟨b', 3, none⟩ = some (.pointer (some ⟨cb, 0, none⟩)) ∧ w5.cell? ⟨b', 1, none⟩ = some (.string ⟨x.toArray⟩)) := by
    refine Lib.hid fun o sc2 w4 g1 g2 g3 g4 => ?_
    have hs2 : Scope w4 sc2 (x :: rs) := by
      unfold Scope
      rw [scope_snoc]
      exact g1
    have hb4 : Bld B b (l ++ [40, 108, 97, 109, 32] ++ x ++ [32]) w4 := ((HS3.out.bld.alloc o).drew).grown ((HS3.out.scope.alloc o).drew) g3
    have hz4 := g3.size
    simp only [World.size_drew, World.size_alloc] at hz4
    have hB3 := HS3.out.size hB
    have hd4 : DAt w4 P d (.pointer (some ⟨cb, 0, none⟩)) := by
      have h1 := HS3.out.fr.dat HBL.out HS.out HD.out
      refine h1.keep fun q cs hk => ?_
      have hk2 : Blk (w3.alloc o).drew q 66 cs := (hk.alloc o).drew
      exact hk2.grown g3 (row_not hk HS3.out.scope (by decide))
    refine (IH.out _ w4 P sc2 (x :: rs) B b _ hd4 hs2 hb4 (by omega) HCL.out (by simp; omega) (by simp; omega)).mono ?_
    rintro e w5 ⟨rfl, h1, h2, h3⟩
    have h5 := HS3.out.inner hB g2 g3 g4 h1 h2 h3
    have hk5 := h5.fr.blk HBL.out HS.out HB'.out
    have c3 := hk5.cell 3
    have c1 := hk5.cell 1
    simp at c3 c1
    exact ⟨rfl, h5, c3, c1⟩
  clear h3 hk3
  go_wp2_with fail
  go_region_held3 (fun w' => w'.cell? ⟨b', 3, none⟩ = some (.pointer (some ⟨cb, 0, none⟩)) ∧ w'.cell? ⟨b', 1, none⟩ = some (.string ⟨x.toArray⟩))
    (first
      | go_keep
      | exact ⟨far_cell hg4 jl hne j3, far_cell hg4 jl hne j31⟩
      | assumption)
    (first
      | (refine step_append_two (by rfl) _ _ _ (by rfl) 9 i0 (.string ⟨#[]⟩) 16 Try.underlying23 hinf hz0 hzs hzb rfl (.slice A rs.length c) rs.length (rs.reverse.map strV) (by rfl) ((HS3.out.scope.alloc _).drew) ⟨w3.heap.size, 0, none⟩ 1 (.string ⟨x.toArray⟩) (by rfl) (by simp) rfl (by unfold maxLen; omega) (by omega) ?_; intro sc2 w4 hown4 hold4 hg4 hat4)
      | (go_at_call 53; (with_reducible refine (C1.out _ _ _ hown4 hold4 hg4 hat4).mono ?_); rintro e w5 ⟨rfl, h5, q5⟩; have HS5 := Lib.hid h5; clear h5))
  go_wp2_with fail
  refine (HS5.out.text hB [41] (by simp; omega) (by simp)).mono ?_
  rintro e w6 ⟨rfl, h6⟩
  have HS6 := Lib.hid h6
  clear h6
  go_wp2_with fail
  go_end0
  refine ⟨rfl, ?_, HS6.out.scope, HS6.out.fr⟩
  have := HS6.out.bld
  rw [HE.out]
  simpa using this

theorem write_any (d : DB) : WrSaid d := by
  induction d with
  | free x => exact write_free x
  | bnd i => exact write_bnd i
  | lam x d ih => exact write_lam x d ih
  | app f a ihf iha => exact write_app f a ihf iha

/-- The text of a term. -/
theorem text_any (d : DB) (v : Value) (w : World) (P : Nat → Prop) (sc : Value) (rs : List (List UInt8)) (hd : DAt w P d v) (hsc : Scope w sc rs) (hcl : d.cl rs.length) (hsz : rs.length + d.size ≤ 2000) (hlen : (wrD rs d).length ≤ 1000000) :
    Calls Try.prog 39 #[v, sc] w fun e w' => e = .returned (.string ⟨(wrD rs d).toArray⟩) ∧ w.grownBy w' sc.ownBlock ∧ Scope w' sc rs ∧ (∀ q cs, Blk w q 66 cs → Blk w' q 66 cs) := by
  obtain ⟨b0, rfl, _⟩ := hd.shape
  obtain ⟨A, c, rfl⟩ := own_shape hsc
  have hbl := Bld.fresh w
  have hd1 : DAt (w.alloc (.cells #[.pointer none, .slice none 0 0] 73)) P d (.pointer (some ⟨b0, 0, none⟩)) := hd.keep fun q cs hk => hk.alloc _
  have hs1 : Scope (w.alloc (.cells #[.pointer none, .slice none 0 0] 73)) (.slice A rs.length c) rs := hsc.alloc _
  have HD := Lib.hid hd1
  have HS := Lib.hid hs1
  have HBL := Lib.hid hbl
  have HSC := Lib.hid hsc
  have HCL := Lib.hid hcl
  clear hd hsc hd1 hs1 hbl hcl
  go_enter Try.func39, Try.ntmps39
  go_wp2_with fail
  refine (write_any d _ _ P _ rs w.heap.size w.heap.size [] HD.out HS.out HBL.out (by simp) HCL.out hsz (by simpa using hlen)).mono ?_
  rintro e w1 ⟨rfl, h1, h2, h3⟩
  rw [List.nil_append] at h1
  have H1 := Lib.hid h1
  have H2 := Lib.hid h2
  have H3 := Lib.hid h3
  have hz := h3.size
  simp only [World.size_alloc] at hz
  clear h1 h2 h3
  go_wp2_with fail
  refine (bString_any w.heap.size w.heap.size (wrD rs d) _ H1.out (by omega)).mono ?_
  rintro e w2 ⟨rfl, hb2⟩
  have HB2 := Lib.hid hb2
  clear hb2
  go_wp2_with fail
  go_ret
  have hk : ∀ k, k < w.heap.size → some k ≠ (Value.slice A rs.length c).ownBlock → w2.heap[k]? = w.heap[k]? := fun k hk hne => by
    rw [HB2.out.block k hk, H3.out.lo k hk hne]
    exact Below.heap_alloc _ _ _ hk
  refine ⟨rfl, ⟨HB2.out.os.trans H3.out.os, HB2.out.tape.trans H3.out.tape, HB2.out.output.trans H3.out.output, by have := HB2.out.size; omega, hk⟩, ?_, fun q cs hq => (hk q hq.lt (row_not hq HSC.out (by decide))).trans hq⟩
  obtain ⟨g1, g2⟩ := H2.out
  refine ⟨g1, ?_⟩
  rcases g2 with g2 | ⟨g, cap, cur, hv, hg, hh, q⟩
  · exact .inl g2
  · have hgl : g < w.heap.size := (HSC.out.lt g (by rw [hv]; rfl)).2
    exact .inr ⟨g, cap, cur, hv, hg, by rw [HB2.out.block g hgl]; exact hh, q⟩
end Go.Proofs.Ytgceephloklpbac
