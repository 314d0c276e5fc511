/- The text of a Builder. What is written to a Builder. What stays while a text is written; append of one cell as a step of a region that draws its order. The program writes a term. Whether a text is among some, for the program. The program's free names of a term. The program gives new names, and renames. -/
import Derived.Shelf.Strings.BuilderK
import Derived.Test.YtjcdclnaplojcaaGreatDoorI
import Derived.Test.YtjcdclnaplojcaaGreatDoorWB
import Derived.Test.YtjcdclnaplojcaaGreatDoorT0
import Derived.Test.YtjcdclnaplojcaaGreatDoorU
import Derived.Deep.RegionHeld3
import Derived.Deep.RegionLaw
import Derived.Deep.AppendLies
import Derived.Deep.DrawnRows
import Derived.Test.YtjcdclnaplojcaaGreatDoorP
import Derived.Test.YtjcdclnaplojcaaGreatDoorW0
import Derived.Test.YtjcdclnaplojcaaGreatDoorZ0
import Derived.Test.YtjcdclnaplojcaaGreatDoorJ4
import Derived.Test.YtjcdclnaplojcaaGreatDoorIT
import Derived.Test.YtjcdclnaplojcaaGreatDoorC1
import Derived.Deep.LoopGhost
namespace Go.Proofs.YtjcdclnaplojcaaGreatDoor
set_option linter.unusedVariables false
open Go.RowKit

def strRen : Go.Shelf.Ren := ⟨fun | 169 => 67 | n => n, fun | 70 => 121 | 9 => 9 | 0 => 0 | 72 => 123 | 37 => 22 | 127 => 170 | 3 => 3 | 5 => 5 | n => n, fun | n => n⟩
theorem strLays : Go.Proofs.Lays.n169 Tryz.prog strRen := {
  mixed := by kernel_rfl
  f169 := Tryz.func67.trans (congrArg some (by kernel_rfl))
  t0 := Tryz.underlying0
  a0 := Tryz.isAgg0
  z0 := Tryz.sizeOf0
  v0 := Tryz.zeroValue0
  t3 := Tryz.underlying3
  a3 := Tryz.isAgg3
  z3 := Tryz.sizeOf3
  v3 := Tryz.zeroValue3
  t9 := Tryz.underlying9
  a9 := Tryz.isAgg9
  z9 := Tryz.sizeOf9
  v9 := Tryz.zeroValue9
  t37 := Tryz.underlying22
  a37 := Tryz.isAgg22
  z37 := Tryz.sizeOf22
  v37 := Tryz.zeroValue22
  t70 := Tryz.underlying121
  a70 := Tryz.isAgg121
  z70 := Tryz.sizeOf121
  v70 := Tryz.zeroValue121
  t72 := Tryz.underlying123
  a72 := Tryz.isAgg123
  z72 := Tryz.sizeOf123
  v72 := Tryz.zeroValue123
  t127 := Tryz.underlying170
  a127 := Tryz.isAgg170
  z127 := Tryz.sizeOf170
  v127 := Tryz.zeroValue170 }
theorem strExtra : Builder.Extra Tryz.prog strRen := {
  sizeBuilder := by kernel_rfl
  liesBuilder := by kernel_rfl
  t5 := Tryz.underlying5
  a5 := Tryz.isAgg5
  z5 := Tryz.sizeOf5
  v5 := Tryz.zeroValue5
  infoByte := by kernel_rfl
  cellsByte := by kernel_rfl
  sizeByte := by kernel_rfl
  neB5 := by decide }

/-- A Builder in block b, of the call's own from block B on, holds some bytes. -/
def Bld (B b : Nat) (l : List UInt8) (w : World) : Prop := Lib.IsBuilderF 123 5 B b (Lib.byteCells l) w
/-- All but a Builder and rows of bytes is as it was. -/
abbrev Oth (b : Nat) (w w' : World) : Prop := Lib.OthersKept 5 (some b) w w'

theorem bString_any (B b : Nat) (l : List UInt8) (w : World) (h : Bld B b l w) (hB : B ≤ w.heap.size) :
    Calls Tryz.prog 67 #[.pointer (some ⟨b, 0, none⟩)] w fun e w' => e = .returned (.string ⟨l.toArray⟩) ∧ Below B w w' :=
  (Any.Builder_String_any_k strLays strExtra B b l w h hB).mono fun _ _ ⟨he, _, hb, _⟩ => ⟨he, hb⟩

theorem Bld.lt {B b : Nat} {l : List UInt8} {w : World} (h : Bld B b l w) : B ≤ b ∧ b < w.heap.size := by
  rcases h with h | h
  · exact ⟨h.1, h.lt⟩
  · exact ⟨h.1, h.lt⟩
theorem Bld.fresh (w : World) : Bld w.heap.size w.heap.size [] (w.alloc (.cells #[.pointer none, .slice none 0 0] 123)) :=
  .inl ⟨Nat.le_refl _, _, heap_alloc_new w _, World.ownsRowF_nil _ _ _ _, by simp [Value.ownBlock]⟩

set_option maxRecDepth 100000 in
/-- Behind copyCheck the Builder bears its own address. -/
theorem copyCheck_any (B b : Nat) (l : List UInt8) (w : World) (h : Bld B b l w) :
    Calls Tryz.prog 117 #[.pointer (some ⟨b, 0, none⟩)] w fun e w' => e = .returned (.tuple #[]) ∧ Lib.BuilderAtF 123 5 B b (.pointer (some ⟨b, 0, none⟩)) (Lib.byteCells l) w' ∧ Below B w w' ∧ Oth b w w' := by
  rcases h with h | h
  · have c0 := h.cell0
    have f0 := h.frozen0
    have h_shape := h.shape
    have hlt := h.lt
    have HB := Lib.hid h
    clear h
    have hsh := h_shape
    obtain ⟨j, hj, hjs⟩ := Option.map_eq_some_iff.1 strExtra.sizeBuilder
    go_enter Tryz.func117, Tryz.ntmps117
    go_wp2
    rw [Lib.run_to_unsafe w ⟨b, 0, none⟩ Tryz.underlying121 Tryz.underlying197 hj (by rw [hjs]; decide) hsh (Nat.zero_lt_succ 1)]
    simp only [Result.andThen]
    rw [Oper.upon_value]
    go_wp2
    rw [run_callFunc_extern Tryz.func127 (by kernel_rfl) (by kernel_rfl) (by kernel_rfl) (e := Extern.AbiNoEscape.same) (by kernel_rfl)]
    rw [Lib.run_noEscape]
    simp only [Result.andThen]
    rw [Oper.upon_value]
    go_wp2
    rw [Lib.run_from_unsafe w ⟨b, 0, none⟩ Tryz.underlying197 Tryz.underlying121 hj hsh strExtra.liesBuilder]
    simp only [Result.andThen]
    rw [Oper.upon_value]
    go_wp2
    go_end0
    exact ⟨rfl, HB.out.used _, (Below.refl _ _).setCell (p := ⟨b, 0, none⟩) HB.out.1 _, (Lib.OthersKept.refl _ _ _).setCell ⟨b, 0, none⟩ rfl _⟩
  · have c0 := h.cell0
    have HB := Lib.hid h
    obtain ⟨j, hj, hjs⟩ := Option.map_eq_some_iff.1 strExtra.sizeBuilder
    clear h
    go_enter Tryz.func117, Tryz.ntmps117
    go_wp2
    rw [Lib.run_neq_ptr_same w _ Tryz.underlying121 hj]
    go_wp2
    go_end0
    exact ⟨rfl, HB.out, Below.refl _ _, Lib.OthersKept.refl _ _ _⟩

theorem cells_append (l : List UInt8) (s : ByteArray) : Lib.byteCells l ++ Lib.strCells s = Lib.byteCells (l ++ s.data.toList) := by
  simp [Lib.byteCells, Lib.strCells]
end Go.Proofs.YtjcdclnaplojcaaGreatDoor

namespace Go.Proofs.YtjcdclnaplojcaaGreatDoor
set_option linter.unusedVariables false
open Go.RowKit

set_option maxRecDepth 100000 in
/-- A text is written behind what a Builder holds. -/
theorem writeString_any (B b : Nat) (l : List UInt8) (s : ByteArray) (w : World) (h : Bld B b l w) (hl : l.length ≤ 1000000) (hs : s.size ≤ 1000000) (hB : B ≤ w.heap.size) :
    Calls Tryz.prog 97 #[.pointer (some ⟨b, 0, none⟩), .string s] w fun e w' => e = .returned (.tuple #[.int .i64 s.size, .nilIface]) ∧ Bld B b (l ++ s.data.toList) w' ∧ Below B w w' ∧ Oth b w w' := by
  obtain ⟨i0, hinf, hz0, hzs, hzb⟩ := info_parts strExtra.infoByte
  have hlen := Lib.byteCells_length l
  have HLEN := Lib.hid hlen
  have HB := Lib.hid hB
  have H := Lib.hid h
  clear h hB hlen
  go_enter Tryz.func97, Tryz.ntmps97
  go_wp2_with fail
  refine (copyCheck_any B b l _ H.out).mono ?_
  rintro e w1 ⟨rfl, h1, hb1, hk1⟩
  obtain ⟨hBb, v, hbk, hown, hne⟩ := h1
  have HNE := Lib.hid hne
  have HK := Lib.hid hk1
  have HB1 := Lib.hid hb1
  have hz1 := hb1.size
  have c0 : w1.cell? ⟨b, 0, none⟩ = some (.pointer (some ⟨b, 0, none⟩)) := by rw [Lib.cell_of_heap hbk]; rfl
  have c1 : w1.cell? ⟨b, 1, none⟩ = some v := by rw [Lib.cell_of_heap hbk]; rfl
  have hlt : b < w1.heap.size := (Array.getElem?_eq_some_iff.1 hbk).1
  have HBK := Lib.hid hbk
  clear hbk hne hk1 hb1
  go_wp2_with (at_builtin; refine Lib.wpList_append_own_stringF _ rfl _ _ 22 9 rfl B 5 i0 Tryz.underlying22 Tryz.underlying9 hinf hz0 hzs hzb _ _ _ rfl hown s rfl ?c3 ?c4 ?c5 ?_)
  case c3 => rw [HLEN.out]; unfold maxLen; omega
  case c4 => rw [HLEN.out]; omega
  case c5 => have := HB.out; omega
  intro v' w2 hown' hgrow _
  have hb2 : w2.heap[b]? = some (.cells #[.pointer (some ⟨b, 0, none⟩), v] 123 (0, 0)) := by
    rw [hgrow.block b hlt (fun e => HNE.out e.symm)]
    exact HBK.out
  have d0 : w2.cell? ⟨b, 0, none⟩ = some (.pointer (some ⟨b, 0, none⟩)) := by rw [Lib.cell_of_heap hb2]; rfl
  have d1 : w2.cell? ⟨b, 1, none⟩ = some v := by rw [Lib.cell_of_heap hb2]; rfl
  have f1 : w2.frozen? ⟨b, 1, none⟩ = false := Lib.frozen_of_heap hb2 1
  obtain ⟨ao, n', cap, rfl⟩ : ∃ ao n' cap, v' = .slice ao n' cap := by
    rcases hown'.2 with ⟨hv, _⟩ | ⟨g, cap, cur, fz, hv, _⟩
    · exact ⟨_, _, _, hv⟩
    · exact ⟨_, _, _, hv⟩
  have HO := Lib.hid hown
  have HO2 := Lib.hid hown'
  have HG := Lib.hid hgrow
  have HB2 := Lib.hid hb2
  clear hown hown' hgrow hb2
  go_wp2
  go_ret2
  refine ⟨rfl, .inr ?_, ?_, (HK.out.grown HG.out (Lib.ownsRowF_kind HO.out)).setCell ⟨b, 1, none⟩ rfl _⟩
  · rw [← cells_append]
    exact Lib.BuilderAtF.put (T := 123) (e := 5) hBb HB2.out (bs' := Lib.byteCells l ++ Lib.strCells s) (by simpa [Lib.strCells_length] using HO2.out) (by decide)
  · exact (HB1.out.grown HG.out (by have := HB.out; omega) (fun k hk => (HO.out.lt k hk).1)).setCell (p := ⟨b, 1, none⟩) hBb _
end Go.Proofs.YtjcdclnaplojcaaGreatDoor

namespace Go.Proofs.YtjcdclnaplojcaaGreatDoor
set_option linter.unusedVariables false
open Go.RowKit

/-- What stays while a text is written with a scope: all that lies below B but the scope's row; and all that is no Builder's, no row of bytes, and not the scope's row. -/
structure WFr (B b : Nat) (r : Option Nat) (w w' : World) : Prop where
  os : w'.os = w.os
  tape : w'.tape = w.tape
  output : w'.output = w.output
  size : w.heap.size ≤ w'.heap.size
  lo : ∀ k, k < B → some k ≠ r → w'.heap[k]? = w.heap[k]?
  ot : ∀ k o, w.heap[k]? = some o → k ≠ b → some k ≠ r → (∀ c fz, o ≠ .cells c 5 fz) → w'.heap[k]? = some o
theorem WFr.refl (B b : Nat) (r : Option Nat) (w : World) : WFr B b r w w := ⟨rfl, rfl, rfl, Nat.le_refl _, fun _ _ _ => rfl, fun _ _ h _ _ _ => h⟩
theorem WFr.trans {B b : Nat} {r : Option Nat} {w w1 w2 : World} (h1 : WFr B b r w w1) (h2 : WFr B b r w1 w2) : WFr B b r w w2 :=
  ⟨h2.os.trans h1.os, h2.tape.trans h1.tape, h2.output.trans h1.output, Nat.le_trans h1.size h2.size, fun k hk hr => (h2.lo k hk hr).trans (h1.lo k hk hr), fun k o ho hb hr hn => h2.ot k o (h1.ot k o ho hb hr hn) hb hr hn⟩
theorem WFr.wrote {B b : Nat} (r : Option Nat) {w w' : World} (hB : Below B w w') (ho : Oth b w w') : WFr B b r w w' :=
  ⟨hB.os, hB.tape, hB.output, hB.size, fun k hk _ => hB.block k hk, fun k o h hb _ hn => ho k o h (fun e => hb (Option.some.inj e)) hn⟩
theorem WFr.grown {B b : Nat} {r : Option Nat} {w w' : World} (hB : B ≤ w.heap.size) (h : w.grownBy w' r) : WFr B b r w w' :=
  ⟨h.os, h.tape, h.output, h.size, fun k hk hr => h.block k (Nat.lt_of_lt_of_le hk hB) hr, fun k o ho _ hr _ => by rw [h.block k (Array.getElem?_eq_some_iff.1 ho).1 hr]; exact ho⟩
/-- A longer scope in a row of its own. -/
theorem WFr.newer {B b g : Nat} {r : Option Nat} {w w1 w2 : World} (hg : w.grownBy w1 none) (hB : B ≤ w.heap.size) (hgw : w.heap.size ≤ g) (h : WFr B b (some g) w1 w2) : WFr B b r w w2 :=
  ⟨h.os.trans hg.os, h.tape.trans hg.tape, h.output.trans hg.output, Nat.le_trans hg.size h.size,
    fun k hk _ => by rw [h.lo k hk (by intro e; injection e with e; omega)]; exact hg.block k (by omega) (by simp),
    fun k o ho hb _ hn => h.ot k o (by rw [hg.block k (Array.getElem?_eq_some_iff.1 ho).1 (by simp)]; exact ho) hb (by intro e; injection e with e; have := (Array.getElem?_eq_some_iff.1 ho).1; omega) hn⟩

theorem Bld.head {B b : Nat} {l : List UInt8} {w : World} (h : Bld B b l w) : ∃ cs, w.heap[b]? = some (.cells cs 123 (0, 0)) := by
  rcases h with h | h
  · obtain ⟨_, v, hb, _⟩ := h; exact ⟨_, hb⟩
  · obtain ⟨_, v, hb, _⟩ := h; exact ⟨_, hb⟩
theorem Bld.ne {B b q : Nat} {l : List UInt8} {w : World} (h : Bld B b l w) {t : TypeId} {cs : Array Value} (hk : Blk w q t cs) (ht : t ≠ 123) : q ≠ b := by
  rintro rfl
  obtain ⟨cs', h⟩ := h.head
  have h2 : w.heap[q]? = some (.cells cs t (0, 0)) := hk
  rw [h2] at h
  injection h with h
  injection h with _ h
  exact ht h
/-- A block of a term stays. -/
theorem WFr.blk {B b : Nat} {sc : Value} {w w' : World} (h : WFr B b sc.ownBlock w w') {l : List UInt8} (hb : Bld B b l w) {rs : List (List UInt8)} (hs : Scope w sc rs) {q : Nat} {cs : Array Value} (hk : Blk w q 132 cs) : Blk w' q 132 cs :=
  h.ot q _ hk (hb.ne hk (by decide)) (row_not hk hs (by decide)) (fun c fz e => by injection e with _ e; exact absurd e (by decide))
theorem WFr.dat {B b : Nat} {sc : Value} {w w' : World} (h : WFr B b sc.ownBlock w w') {l : List UInt8} (hb : Bld B b l w) {rs : List (List UInt8)} (hs : Scope w sc rs) {P : Nat → Prop} {t : DB} {v : Value} (hd : DAt w P t v) : DAt w' P t v :=
  hd.keep fun q cs hk => h.blk hb hs hk

/-- A row that grows and is no row of bytes, and no Builder. -/
theorem Bld.grown {B b : Nat} {l : List UInt8} {w w' : World} (h : Bld B b l w) {sc : Value} {rs : List (List UInt8)} (hs : Scope w sc rs) (hg : w.grownBy w' sc.ownBlock) : Bld B b l w' := by
  have key : ∀ p, Lib.BuilderAtF 123 5 B b p (Lib.byteCells l) w → Lib.BuilderAtF 123 5 B b p (Lib.byteCells l) w' := by
    rintro p ⟨hB, v, hb, hown, hne⟩
    have hbk : Blk w b 123 #[p, v] := hb
    refine ⟨hB, v, ?_, hown.kept hg ?_, hne⟩
    · rw [hg.block b hbk.lt (row_not hbk hs (by decide))]; exact hb
    · rcases hown.2 with ⟨rfl, _⟩ | ⟨g, cap, cur, fz, rfl, _, hgg, _⟩
      · exact .inl rfl
      · right
        intro e
        rcases hs.2 with ⟨rfl, _⟩ | ⟨g', cap', cur', rfl, _, hg', _⟩
        · simp [Value.ownBlock] at e
        · have e' : g = g' := by simpa [Value.ownBlock] using e
          subst e'
          rw [hgg] at hg'
          injection hg' with hg'
          injection hg' with _ h
          exact absurd h (by decide)
  exact h.elim (fun h => .inl (key _ h)) (fun h => .inr (key _ h))
theorem Bld.alloc {B b : Nat} {l : List UInt8} {w : World} (h : Bld B b l w) (o : Obj) : Bld B b l (w.alloc o) := by
  exact h.elim (fun h => .inl (h.alloc o)) (fun h => .inr (h.alloc o))
theorem Bld.drew {B b : Nat} {l : List UInt8} {w : World} (h : Bld B b l w) : Bld B b l w.drew := h

/-- What the writing of a term answers. -/
def WrPost (B b : Nat) (out : List UInt8) (sc : Value) (rs : List (List UInt8)) (w : World) (e : Ending) (w' : World) : Prop :=
  e = .returned (.tuple #[]) ∧ Bld B b out w' ∧ Scope w' sc rs ∧ WFr B b sc.ownBlock w w'
def WrSaid (d : DB) : Prop := ∀ (v : Value) (w : World) (P : Nat → Prop) (sc : Value) (rs : List (List UInt8)) (B b : Nat) (l : List UInt8), DAt w P d v → Scope w sc rs → Bld B b l w → B ≤ w.heap.size → d.cl rs.length → rs.length + d.size ≤ 2000 → l.length + (wrD rs d).length ≤ 1000000 →
  Calls Tryz.prog 66 #[v, .pointer (some ⟨b, 0, none⟩), sc] w (WrPost B b (l ++ wrD rs d) sc rs w)

/-- A row of the scope stays while texts are written. -/
theorem Scope.wrote {sc : Value} {rs : List (List UInt8)} {b : Nat} {w w' : World} (h : Scope w sc rs) {B : Nat} {l : List UInt8} (hb : Bld B b l w) (ho : Oth b w w') : Scope w' sc rs := by
  obtain ⟨h1, h2⟩ := h
  refine ⟨h1, ?_⟩
  rcases h2 with h2 | ⟨g, cap, cur, rfl, hg, hh, r⟩
  · exact .inl h2
  · refine .inr ⟨g, cap, cur, rfl, hg, ho g _ hh (fun e => ?_) (fun c fz e => by injection e with _ e; exact absurd e (by decide)), r⟩
    have hk : Blk w g 9 cur := hh
    exact hb.ne hk (by decide) (Option.some.inj e)
end Go.Proofs.YtjcdclnaplojcaaGreatDoor

namespace Go.Proofs.YtjcdclnaplojcaaGreatDoor
set_option linter.unusedVariables false
open Go.RowKit
attribute [local go_sem ↓] Go.wp_at_zero Go.wp_at_succ

theorem write_free (x : List UInt8) : WrSaid (.free x) := by
  rintro v w P sc rs B b l ⟨b', rfl, hbP, hx, hb'⟩ hsc hbl hB hcl hsz hlen
  have k0 := hb'.cell 0
  have k1 := hb'.cell 1
  simp at k0 k1
  obtain ⟨A, c, rfl⟩ := own_shape hsc
  have HS := Lib.hid hsc
  have HBL := Lib.hid hbl
  have hlen' : l.length ≤ 1000000 := by omega
  clear hsc hbl hb' hlen
  go_enter Tryz.func66, Tryz.ntmps66
  go_wp2_with fail
  refine (writeString_any B b l ⟨x.toArray⟩ _ HBL.out hlen' (by simp [ByteArray.size]; omega) hB).mono ?_
  rintro e w1 ⟨rfl, h1, h2, h3⟩
  have H1 := Lib.hid h1
  have H2 := Lib.hid h2
  have H3 := Lib.hid h3
  clear h1 h2 h3
  go_wp2_with fail
  go_end0
  refine ⟨rfl, ?_, HS.out.wrote HBL.out H3.out, WFr.wrote _ H2.out H3.out⟩
  exact H1.out

theorem write_bnd (i : Nat) : WrSaid (.bnd i) := by
  rintro v w P sc rs B b l ⟨b', rfl, hbP, hb'⟩ hsc hbl hB hcl hsz hlen
  have k0 := hb'.cell 0
  have k2 := hb'.cell 2
  simp at k0 k2
  have hi : i < rs.length := hcl
  obtain ⟨A, c, rfl⟩ := own_shape hsc
  obtain ⟨g, rfl, _, hcell⟩ := hsc.cell hi
  have HS := Lib.hid hsc
  have HBL := Lib.hid hbl
  have hrs : rs.length ≤ 2000 := by omega
  have hw : wrD rs (.bnd i) = rs[i] := by simp only [wrD]; rw [List.getElem?_eq_getElem hi]; rfl
  rw [hw] at hlen
  have HW := Lib.hid hw
  have hl1 : l.length ≤ 1000000 := by omega
  have hl2 : (ByteArray.mk (rs[i]).toArray).size ≤ 1000000 := by simp [ByteArray.size]; omega
  clear hsc hbl hb' hcl hlen hw
  go_enter Tryz.func66, Tryz.ntmps66
  go_wp2_with fail
  refine (writeString_any B b l ⟨(rs[i]).toArray⟩ _ HBL.out hl1 hl2 hB).mono ?_
  rintro e w1 ⟨rfl, h1, h2, h3⟩
  have H1 := Lib.hid h1
  have H2 := Lib.hid h2
  have H3 := Lib.hid h3
  clear h1 h2 h3
  go_wp2_with fail
  go_end0
  refine ⟨rfl, ?_, HS.out.wrote HBL.out H3.out, WFr.wrote _ H2.out H3.out⟩
  rw [HW.out]
  exact H1.out

/-- The last step that a text of the program's own is written. -/
theorem WrPost.more {B b : Nat} {l x : List UInt8} {sc : Value} {rs : List (List UInt8)} {w w1 w2 : World} (h : WFr B b sc.ownBlock w w1) (hb : Bld B b l w1) (hs : Scope w1 sc rs) (h1 : Bld B b (l ++ x) w2) (h2 : Below B w1 w2) (h3 : Oth b w1 w2) :
    Bld B b (l ++ x) w2 ∧ Scope w2 sc rs ∧ WFr B b sc.ownBlock w w2 := ⟨h1, hs.wrote hb h3, h.trans (WFr.wrote _ h2 h3)⟩

/-- A state on the way: so much is written. -/
structure WSt (B b : Nat) (sc : Value) (rs : List (List UInt8)) (w : World) (l : List UInt8) (w1 : World) : Prop where
  bld : Bld B b l w1
  scope : Scope w1 sc rs
  fr : WFr B b sc.ownBlock w w1
theorem WSt.size {B b : Nat} {sc : Value} {rs : List (List UInt8)} {w : World} {l : List UInt8} {w1 : World} (h : WSt B b sc rs w l w1) (hB : B ≤ w.heap.size) : B ≤ w1.heap.size := Nat.le_trans hB h.fr.size
/-- A text is written. -/
theorem WSt.text {B b : Nat} {sc : Value} {rs : List (List UInt8)} {w : World} {l : List UInt8} {w1 : World} (h : WSt B b sc rs w l w1) (hB : B ≤ w.heap.size) (x : List UInt8) (hl : l.length ≤ 1000000) (hx : x.length ≤ 1000000) :
    Calls Tryz.prog 97 #[.pointer (some ⟨b, 0, none⟩), .string ⟨x.toArray⟩] w1 fun e w2 => e = .returned (.tuple #[.int .i64 (ByteArray.mk x.toArray).size, .nilIface]) ∧ WSt B b sc rs w (l ++ x) w2 := by
  refine (writeString_any B b l ⟨x.toArray⟩ w1 h.bld hl (by simpa [ByteArray.size] using hx) (h.size hB)).mono ?_
  rintro e w2 ⟨rfl, h1, h2, h3⟩
  rw [toNil] at h1
  exact ⟨rfl, h1, h.scope.wrote h.bld h3, h.fr.trans (WFr.wrote _ h2 h3)⟩
/-- A term is written. -/
theorem WSt.term {B b : Nat} {sc : Value} {rs : List (List UInt8)} {w : World} {l : List UInt8} {w1 : World} (h : WSt B b sc rs w l w1) (hB : B ≤ w.heap.size) {d : DB} (ih : WrSaid d) {v : Value} {P : Nat → Prop} (hd : DAt w P d v) {l0 : List UInt8} (hb0 : Bld B b l0 w) (hs0 : Scope w sc rs)
    (hcl : d.cl rs.length) (hsz : rs.length + d.size ≤ 2000) (hlen : l.length + (wrD rs d).length ≤ 1000000) :
    Calls Tryz.prog 66 #[v, .pointer (some ⟨b, 0, none⟩), sc] w1 fun e w2 => e = .returned (.tuple #[]) ∧ WSt B b sc rs w (l ++ wrD rs d) w2 := by
  refine (ih v w1 P sc rs B b l (h.fr.dat hb0 hs0 hd) h.scope h.bld (h.size hB) hcl hsz hlen).mono ?_
  rintro e w2 ⟨rfl, h1, h2, h3⟩
  exact ⟨rfl, h1, h2, h.fr.trans h3⟩

set_option maxRecDepth 100000 in
theorem write_app (f a : DB) (ihf : WrSaid f) (iha : WrSaid a) : WrSaid (.app f a) := by
  rintro v w P sc rs B b l ⟨b', cb, db, rfl, hbP, hb', hf, ha⟩ hsc hbl hB hcl hsz hlen
  have k0 := hb'.cell 0
  have k3 := hb'.cell 3
  simp at k0 k3
  obtain ⟨A, c, rfl⟩ := own_shape hsc
  have hS0 := Lib.hid (⟨hbl, hsc, WFr.refl _ _ _ _⟩ : WSt B b (.slice A rs.length c) rs w l w)
  have HS := Lib.hid hsc
  have HBL := Lib.hid hbl
  have HB' := Lib.hid hb'
  have HF := Lib.hid hf
  have HA := Lib.hid ha
  have HCL := Lib.hid hcl
  have IHF := Lib.hid ihf
  have IHA := Lib.hid iha
  have HE : Hid (wrD rs (.app f a) = [40, 97, 112, 112, 32] ++ wrD rs f ++ [32] ++ wrD rs a ++ [41]) := Lib.hid rfl
  have hlen' : l.length + (wrD rs f).length + (wrD rs a).length + 7 ≤ 1000000 := by rw [HE.out] at hlen; simp at hlen; omega
  have hsz' : rs.length + f.size + a.size + 1 ≤ 2000 := by simp only [DB.size] at hsz; omega
  clear hsc hbl hb' hf ha hcl ihf iha hlen hsz
  go_enter Tryz.func66, Tryz.ntmps66
  go_wp2_with fail
  refine (hS0.out.text hB [40, 97, 112, 112, 32] (by omega) (by simp)).mono ?_
  rintro e w1 ⟨rfl, h1⟩
  have HS1 := Lib.hid h1
  have j3 := (h1.fr.blk HBL.out HS.out HB'.out).cell 3
  simp at j3
  clear h1
  go_wp2_with fail
  refine (HS1.out.term hB IHF.out HF.out HBL.out HS.out HCL.out.1 (by omega) (by simp; omega)).mono ?_
  rintro e w2 ⟨rfl, h2⟩
  have HS2 := Lib.hid h2
  have j4 := (h2.fr.blk HBL.out HS.out HB'.out).cell 4
  simp at j4
  clear h2
  go_wp2_with fail
  refine (HS2.out.text hB [32] (by simp; omega) (by simp)).mono ?_
  rintro e w3 ⟨rfl, h3⟩
  have HS3 := Lib.hid h3
  have j4' := (h3.fr.blk HBL.out HS.out HB'.out).cell 4
  simp at j4'
  clear h3
  go_wp2_with fail
  refine (HS3.out.term hB IHA.out HA.out HBL.out HS.out HCL.out.2 (by omega) (by simp; omega)).mono ?_
  rintro e w4 ⟨rfl, h4⟩
  have HS4 := Lib.hid h4
  clear h4
  go_wp2_with fail
  refine (HS4.out.text hB [41] (by simp; omega) (by simp)).mono ?_
  rintro e w5 ⟨rfl, h5⟩
  have HS5 := Lib.hid h5
  clear h5
  go_wp2_with fail
  go_end0
  refine ⟨rfl, ?_, HS5.out.scope, HS5.out.fr⟩
  have := HS5.out.bld
  rw [HE.out]
  simpa using this
theorem WFr.scope {B b : Nat} {r : Option Nat} {w w' : World} (h : WFr B b r w w') {l : List UInt8} (hb : Bld B b l w) {sc : Value} {rs : List (List UInt8)} (hs : Scope w sc rs) (hne : sc.ownBlock = none ∨ sc.ownBlock ≠ r) : Scope w' sc rs := by
  obtain ⟨h1, h2⟩ := hs
  refine ⟨h1, ?_⟩
  rcases h2 with h2 | ⟨g, cap, cur, rfl, hg, hh, q⟩
  · exact .inl h2
  · have hk : Blk w g 9 cur := hh
    refine .inr ⟨g, cap, cur, rfl, hg, h.ot g _ hh (hb.ne hk (by decide)) ?_ (fun c fz e => by injection e with _ e; exact absurd e (by decide)), q⟩
    rcases hne with hne | hne
    · simp [Value.ownBlock] at hne
    · exact hne
theorem WSt.inner {B b : Nat} {sc sc2 : Value} {rs : List (List UInt8)} {w w3 w4 w5 : World} {l l' : List UInt8} {x : List UInt8} {o : Obj} (h : WSt B b sc rs w l w3) (hB : B ≤ w.heap.size) (hold2 : Scope w4 sc rs) (hg2 : ((w3.alloc o).drew).grownBy w4 sc.ownBlock)
    (hat2 : (∃ g cap, sc = .slice (some ⟨g, 0, none⟩) rs.length cap ∧ sc2 = .slice (some ⟨g, 0, none⟩) (rs.length + 1) cap) ∨ (sc2.ownBlock = some ((w3.alloc o).drew).heap.size ∧ ((w3.alloc o).drew).grownBy w4 none))
    (hb5 : Bld B b l' w5) (hs5 : Scope w5 sc2 (x :: rs)) (hf5 : WFr B b sc2.ownBlock w4 w5) : WSt B b sc rs w l' w5 := by
  have hB3 : B ≤ w3.heap.size := h.size hB
  have hW : WFr B b sc.ownBlock w3 (w3.alloc o).drew := WFr.grown hB3 (by have := World.grownBy_alloc w3 o sc.ownBlock; exact ⟨this.os, this.tape, this.output, this.size, this.block⟩)
  have hB4 : B ≤ (w3.alloc o).drew.heap.size := by simp only [World.size_drew, World.size_alloc]; omega
  rcases hat2 with ⟨g, cap, rfl, rfl⟩ | ⟨h1, h2⟩
  · refine ⟨hb5, ?_, h.fr.trans (hW.trans ((WFr.grown hB4 hg2).trans hf5))⟩
    unfold Scope at hs5 ⊢
    rw [scope_snoc] at hs5
    exact own_shorter hs5
  · rw [h1] at hf5
    have hb4 : Bld B b l w4 := ((h.bld.alloc o).drew).grown ((h.scope.alloc o).drew) hg2
    refine ⟨hb5, ?_, h.fr.trans (hW.trans (WFr.newer h2 hB4 (Nat.le_refl _) hf5))⟩
    refine hf5.scope hb4 hold2 ?_
    cases hv : sc.ownBlock with
    | none => exact .inl rfl
    | some q =>
      right
      intro e
      injection e with e
      have := (h.scope.lt q hv).2
      simp only [World.size_drew, World.size_alloc] at e
      omega

set_option maxRecDepth 100000 in
set_option maxHeartbeats 2000000 in
theorem write_lam (x : List UInt8) (d : DB) (ih : WrSaid d) : WrSaid (.lam x d) := by
  rintro v w P sc rs B b l ⟨b', cb, rfl, hbP, hx, hb', hd⟩ hsc hbl hB hcl hsz hlen
  have k0 := hb'.cell 0
  simp at k0
  obtain ⟨A, c, rfl⟩ := own_shape hsc
  have hS0 := Lib.hid (⟨hbl, hsc, WFr.refl _ _ _ _⟩ : WSt B b (.slice A rs.length c) rs w l w)
  have HS := Lib.hid hsc
  have HBL := Lib.hid hbl
  have HB' := Lib.hid hb'
  have HD := Lib.hid hd
  have HCL := Lib.hid hcl
  have IH := Lib.hid ih
  obtain ⟨i0, hinf, hz0, hzs, hzb⟩ := info_parts Tryz.infoStr
  have HE : Hid (wrD rs (.lam x d) = [40, 108, 97, 109, 32] ++ x ++ [32] ++ wrD (x :: rs) d ++ [41]) := Lib.hid rfl
  have hlen' : l.length + x.length + (wrD (x :: rs) d).length + 7 ≤ 1000000 := by rw [HE.out] at hlen; simp at hlen; omega
  have hsz' : rs.length + d.size + 1 ≤ 2000 := by simp only [DB.size] at hsz; omega
  clear hsc hbl hb' hd hcl ih hlen hsz
  go_enter Tryz.func66, Tryz.ntmps66
  go_wp2_with fail
  refine (hS0.out.text hB [40, 108, 97, 109, 32] (by omega) (by simp)).mono ?_
  rintro e w1 ⟨rfl, h1⟩
  have HS1 := Lib.hid h1
  have j1 := (h1.fr.blk HBL.out HS.out HB'.out).cell 1
  simp at j1
  clear h1
  go_wp2_with fail
  refine (HS1.out.text hB x (by simp; omega) (by omega)).mono ?_
  rintro e w2 ⟨rfl, h2⟩
  have HS2 := Lib.hid h2
  clear h2
  go_wp2_with fail
  refine (HS2.out.text hB [32] (by simp; omega) (by simp)).mono ?_
  rintro e w3 ⟨rfl, h3⟩
  have HS3 := Lib.hid h3
  have hk3 := h3.fr.blk HBL.out HS.out HB'.out
  have j3 := hk3.cell 3
  have j31 := hk3.cell 1
  have jl := hk3.lt
  have hne := row_not hk3 h3.scope (by decide)
  simp at j3 j31
  have C1 : Hid (∀ (o : Obj) (sc2 : Value) (w4 : World), w4.ownsRow 0 9 1 sc2 (rs.length + 1) (rs.reverse.map strV ++ [.string ⟨x.toArray⟩]) → Scope w4 (.slice A rs.length c) rs → ((w3.alloc o).drew).grownBy w4 (Value.slice A rs.length c).ownBlock →
      ((∃ g cap, Value.slice A rs.length c = .slice (some ⟨g, 0, none⟩) rs.length cap ∧ sc2 = .slice (some ⟨g, 0, none⟩) (rs.length + 1) cap) ∨ (sc2.ownBlock = some ((w3.alloc o).drew).heap.size ∧ ((w3.alloc o).drew).grownBy w4 none)) →
      Calls Tryz.prog 66 #[.pointer (some ⟨cb, 0, none⟩), .pointer (some ⟨b, 0, none⟩), sc2] w4 fun e w5 => e = .returned (.tuple #[]) ∧ WSt B b (.slice A rs.length c) rs w (l ++ [40, 108, 97, 109, 32] ++ x ++ [32] ++ wrD (x :: rs) d) w5 ∧
        w5.cell? ⟨b', 3, none⟩ = some (.pointer (some ⟨cb, 0, none⟩)) ∧ w5.cell? ⟨b', 1, none⟩ = some (.string ⟨x.toArray⟩)) := by
    refine Lib.hid fun o sc2 w4 g1 g2 g3 g4 => ?_
    have hs2 : Scope w4 sc2 (x :: rs) := by
      unfold Scope
      rw [scope_snoc]
      exact g1
    have hb4 : Bld B b (l ++ [40, 108, 97, 109, 32] ++ x ++ [32]) w4 := ((HS3.out.bld.alloc o).drew).grown ((HS3.out.scope.alloc o).drew) g3
    have hz4 := g3.size
    simp only [World.size_drew, World.size_alloc] at hz4
    have hB3 := HS3.out.size hB
    have hd4 : DAt w4 P d (.pointer (some ⟨cb, 0, none⟩)) := by
      have h1 := HS3.out.fr.dat HBL.out HS.out HD.out
      refine h1.keep fun q cs hk => ?_
      have hk2 : Blk (w3.alloc o).drew q 132 cs := (hk.alloc o).drew
      exact hk2.grown g3 (row_not hk HS3.out.scope (by decide))
    refine (IH.out _ w4 P sc2 (x :: rs) B b _ hd4 hs2 hb4 (by omega) HCL.out (by simp; omega) (by simp; omega)).mono ?_
    rintro e w5 ⟨rfl, h1, h2, h3⟩
    have h5 := HS3.out.inner hB g2 g3 g4 h1 h2 h3
    have hk5 := h5.fr.blk HBL.out HS.out HB'.out
    have c3 := hk5.cell 3
    have c1 := hk5.cell 1
    simp at c3 c1
    exact ⟨rfl, h5, c3, c1⟩
  clear h3 hk3
  go_wp2_with fail
  go_region_held3 (fun w' => w'.cell? ⟨b', 3, none⟩ = some (.pointer (some ⟨cb, 0, none⟩)) ∧ w'.cell? ⟨b', 1, none⟩ = some (.string ⟨x.toArray⟩))
    (first
      | go_keep
      | exact ⟨far_cell hg4 jl hne j3, far_cell hg4 jl hne j31⟩
      | assumption)
    (first
      | (refine step_append_two (by rfl) _ _ _ (by rfl) 9 i0 (.string ⟨#[]⟩) 16 Tryz.underlying55 hinf hz0 hzs hzb rfl (.slice A rs.length c) rs.length (rs.reverse.map strV) (by rfl) ((HS3.out.scope.alloc _).drew) ⟨w3.heap.size, 0, none⟩ 1 (.string ⟨x.toArray⟩) (by rfl) (by simp) rfl (by unfold maxLen; omega) (by omega) ?_; intro sc2 w4 hown4 hold4 hg4 hat4)
      | (go_at_call 66; (with_reducible refine (C1.out _ _ _ hown4 hold4 hg4 hat4).mono ?_); rintro e w5 ⟨rfl, h5, q5⟩; have HS5 := Lib.hid h5; clear h5))
  go_wp2_with fail
  refine (HS5.out.text hB [41] (by simp; omega) (by simp)).mono ?_
  rintro e w6 ⟨rfl, h6⟩
  have HS6 := Lib.hid h6
  clear h6
  go_wp2_with fail
  go_end0
  refine ⟨rfl, ?_, HS6.out.scope, HS6.out.fr⟩
  have := HS6.out.bld
  rw [HE.out]
  simpa using this

theorem write_any (d : DB) : WrSaid d := by
  induction d with
  | free x => exact write_free x
  | bnd i => exact write_bnd i
  | lam x d ih => exact write_lam x d ih
  | app f a ihf iha => exact write_app f a ihf iha

/-- The text of a term. -/
theorem text_any (d : DB) (v : Value) (w : World) (P : Nat → Prop) (sc : Value) (rs : List (List UInt8)) (hd : DAt w P d v) (hsc : Scope w sc rs) (hcl : d.cl rs.length) (hsz : rs.length + d.size ≤ 2000) (hlen : (wrD rs d).length ≤ 1000000) :
    Calls Tryz.prog 36 #[v, sc] w fun e w' => e = .returned (.string ⟨(wrD rs d).toArray⟩) ∧ w.grownBy w' sc.ownBlock ∧ Scope w' sc rs ∧ (∀ q cs, Blk w q 132 cs → Blk w' q 132 cs) := by
  obtain ⟨b0, rfl, _⟩ := hd.shape
  obtain ⟨A, c, rfl⟩ := own_shape hsc
  have hbl := Bld.fresh w
  have hd1 : DAt (w.alloc (.cells #[.pointer none, .slice none 0 0] 123)) P d (.pointer (some ⟨b0, 0, none⟩)) := hd.keep fun q cs hk => hk.alloc _
  have hs1 : Scope (w.alloc (.cells #[.pointer none, .slice none 0 0] 123)) (.slice A rs.length c) rs := hsc.alloc _
  have HD := Lib.hid hd1
  have HS := Lib.hid hs1
  have HBL := Lib.hid hbl
  have HSC := Lib.hid hsc
  have HCL := Lib.hid hcl
  clear hd hsc hd1 hs1 hbl hcl
  go_enter Tryz.func36, Tryz.ntmps36
  go_wp2_with fail
  refine (write_any d _ _ P _ rs w.heap.size w.heap.size [] HD.out HS.out HBL.out (by simp) HCL.out hsz (by simpa using hlen)).mono ?_
  rintro e w1 ⟨rfl, h1, h2, h3⟩
  rw [List.nil_append] at h1
  have H1 := Lib.hid h1
  have H2 := Lib.hid h2
  have H3 := Lib.hid h3
  have hz := h3.size
  simp only [World.size_alloc] at hz
  clear h1 h2 h3
  go_wp2_with fail
  refine (bString_any w.heap.size w.heap.size (wrD rs d) _ H1.out (by omega)).mono ?_
  rintro e w2 ⟨rfl, hb2⟩
  have HB2 := Lib.hid hb2
  clear hb2
  go_wp2_with fail
  go_ret
  have hk : ∀ k, k < w.heap.size → some k ≠ (Value.slice A rs.length c).ownBlock → w2.heap[k]? = w.heap[k]? := fun k hk hne => by
    rw [HB2.out.block k hk, H3.out.lo k hk hne]
    exact Below.heap_alloc _ _ _ hk
  refine ⟨rfl, ⟨HB2.out.os.trans H3.out.os, HB2.out.tape.trans H3.out.tape, HB2.out.output.trans H3.out.output, by have := HB2.out.size; omega, hk⟩, ?_, fun q cs hq => (hk q hq.lt (row_not hq HSC.out (by decide))).trans hq⟩
  obtain ⟨g1, g2⟩ := H2.out
  refine ⟨g1, ?_⟩
  rcases g2 with g2 | ⟨g, cap, cur, hv, hg, hh, q⟩
  · exact .inl g2
  · have hgl : g < w.heap.size := (HSC.out.lt g (by rw [hv]; rfl)).2
    exact .inr ⟨g, cap, cur, hv, hg, by rw [HB2.out.block g hgl]; exact hh, q⟩
end Go.Proofs.YtjcdclnaplojcaaGreatDoor

namespace Go.Proofs.YtjcdclnaplojcaaGreatDoor
set_option linter.unusedVariables false
open Go.RowKit

/-- What slices.Index answers. -/
def IxPost (l : List (List UInt8)) (x : List UInt8) (w : World) (e : Ending) (w' : World) : Prop :=
  w = w' ∧ ((x ∈ l ∧ ∃ k : Nat, e = .returned (.int .i64 k)) ∨ (x ∉ l ∧ e = .returned (.int .i64 (-1))))

theorem sIndex_any (l : List (List UInt8)) (x : List UInt8) (base : Nat) (v : Value) (w : World) (hl : SRow w base v l) (hn : l.length ≤ 10000) :
    Calls Tryz.prog 126 #[v, .string ⟨x.toArray⟩] w (IxPost l x w) := by
  obtain ⟨A, c, rfl⟩ := own_shape hl
  have HL := Lib.hid hl
  clear hl
  go_enter Tryz.func126, Tryz.ntmps126
  go_wp2
  go_loop [8] (fun i => ∃ k : Nat, k ≤ l.length ∧ i = .int .i64 k ∧ Hid (∀ j, j < k → l[j]? ≠ some x)) (fun i => l.length - (intOf i).toNat)
  case atStart => exact ⟨0, by omega, rfl, Lib.hid (fun j hj => by omega)⟩
  case round =>
    obtain ⟨k, hk, rfl, HA⟩ := hrel
    by_cases hlt : k < l.length
    · obtain ⟨g, rfl, _, _, _, hcell⟩ := HL.out.cell hlt
      go_wp2
      all_goals first
        | (go_round
           case rel =>
             have hne : (x == l[k]) = false := by assumption
             refine ⟨k + 1, by omega, by go_num, Lib.hid (fun j hj => ?_)⟩
             by_cases hjk : j = k
             · rw [hjk, List.getElem?_eq_getElem hlt]
               intro e
               injection e with e
               rw [e] at hne
               simp at hne
             · exact HA.out j (by omega)
           case measure => simp [intOf]; omega)
        | (have heq : (x == l[k]) = true := by assumption
           go_ret
           refine ⟨rfl, .inl ⟨?_, k, rfl⟩⟩
           rw [beq_iff_eq.1 heq]
           exact List.getElem_mem _)
    · go_wp2
      go_ret
      refine ⟨rfl, .inr ⟨?_, rfl⟩⟩
      intro hx
      obtain ⟨j, hj, e⟩ := List.getElem_of_mem hx
      exact HA.out j (by omega) (by rw [List.getElem?_eq_getElem hj, e])

theorem sContains_any (l : List (List UInt8)) (x : List UInt8) (base : Nat) (v : Value) (w : World) (hl : SRow w base v l) (hn : l.length ≤ 10000) :
    Calls Tryz.prog 116 #[v, .string ⟨x.toArray⟩] w fun e w' => e = .returned (.bool (decide (x ∈ l))) ∧ w = w' := by
  have HL := Lib.hid hl
  clear hl
  go_enter Tryz.func116, Tryz.ntmps116
  go_wp2_with fail
  refine (sIndex_any l x base v _ HL.out hn).mono ?_
  rintro e w1 ⟨rfl, ⟨hx, k, rfl⟩ | ⟨hx, rfl⟩⟩
  · have HX := Lib.hid hx
    clear hx
    go_wp2_with fail
    go_ret
    exact ⟨ret_bool (by simp [HX.out]), rfl⟩
  · have HX := Lib.hid hx
    clear hx
    go_wp2_with fail
    go_ret
    exact ⟨ret_bool (by simp [HX.out]), rfl⟩

end Go.Proofs.YtjcdclnaplojcaaGreatDoor

namespace Go.Proofs.YtjcdclnaplojcaaGreatDoor
set_option linter.unusedVariables false
open Go.RowKit

/-- The contract of freeNames at a term with depths. -/
def FnSaid (t : DB) : Prop := ∀ (l : List (List UInt8)) (base : Nat) (v lv : Value) (w : World) (P : Nat → Prop), DAt w P t v → (∀ b, P b → b < w.heap.size ∧ some b ≠ lv.ownBlock) → SRow w base lv l → base ≤ w.heap.size → (freeD t l).length ≤ 9000 → l.length ≤ 9000 →
  Calls Tryz.prog 96 #[v, lv] w (FnPost (freeD t l) base lv w)

theorem freeD_grows (t : DB) : ∀ l : List (List UInt8), l.length ≤ (freeD t l).length := by
  induction t with
  | free x => intro l; simp only [freeD]; split <;> simp
  | bnd i => intro l; exact Nat.le_refl _
  | lam x b ih => intro l; exact ih l
  | app f a ihf iha => intro l; exact Nat.le_trans (ihf l) (iha _)

set_option maxRecDepth 100000 in
theorem freeNames_free (x : List UInt8) : FnSaid (.free x) := by
  rintro l base v lv w P ⟨b, rfl, hPb, hx, hb⟩ hP hl hbase hlen hl9
  have k0 := hb.cell 0
  have k1 := hb.cell 1
  simp at k0 k1
  obtain ⟨A, c, rfl⟩ := own_shape hl
  have HL := Lib.hid hl
  clear hl hP hb
  by_cases hxl : x ∈ l
  · have hd : decide (x ∈ l) = true := decide_eq_true hxl
    have HX : Hid (freeD (.free x) l = l) := Lib.hid (by simp [freeD, hxl])
    clear hxl hlen
    go_enter Tryz.func96, Tryz.ntmps96
    go_wp2_with fail
    refine (sContains_any l x base _ _ HL.out (by omega)).mono ?_
    rintro e w1 ⟨rfl, rfl⟩
    go_wp2_with fail
    go_ret
    exact ⟨_, rfl, by rw [HX.out]; exact HL.out, grown_refl _ _, .inl rfl⟩
  · have hd : decide (x ∈ l) = false := decide_eq_false hxl
    have HX : Hid (freeD (.free x) l = l ++ [x]) := Lib.hid (by simp [freeD, hxl])
    obtain ⟨i0, hinf, hz0, hzs, hzb⟩ := info_parts Tryz.infoStr
    clear hxl hlen
    go_enter Tryz.func96, Tryz.ntmps96
    go_wp2_with fail
    refine (sContains_any l x base _ _ HL.out (by omega)).mono ?_
    rintro e w1 ⟨rfl, rfl⟩
    go_wp2_with (first
      | (at_builtin
         refine wpList_append_own_at _ rfl (.tmp 18) (.tmp 23) 55 rfl base 9 i0 (.string ⟨#[]⟩) 1 16 Tryz.underlying55 hinf hz0 hzs hzb rfl (by decide) (.slice A l.length c) l.length (l.map strV) rfl (HL.out.alloc _) ⟨w.heap.size, 0, none⟩ 1 1 [.string ⟨x.toArray⟩] rfl rfl (cell_one_new _ _ _) ?_ ?_ ?_ ?_ ?_
         · intro u hu
           simp at hu
           subst hu
           rfl
         · unfold maxLen; omega
         · omega
         · simp; omega
         intro v2 w2 hown2 hg2 _ hat2)
      | fail)
    go_wp2
    go_ret
    refine ⟨_, rfl, ?_, (World.grownBy_alloc _ _ _).trans hg2, ?_⟩
    · rw [HX.out]
      unfold SRow
      rw [List.length_append, List.map_append]
      exact hown2
    · rcases hat2 with h | h
      · exact .inl h
      · exact .inr ⟨_, h, by simp⟩

theorem freeNames_bnd (i : Nat) : FnSaid (.bnd i) := by
  rintro l base v lv w P ⟨b, rfl, hPb, hb⟩ hP hl hbase hlen hl9
  have k0 := hb.cell 0
  simp at k0
  have HL := Lib.hid hl
  clear hl hP hb
  go_enter Tryz.func96, Tryz.ntmps96
  go_wp2
  go_ret
  exact ⟨_, rfl, HL.out, grown_refl _ _, .inl rfl⟩

theorem freeNames_lam (x : List UInt8) (d : DB) (ih : FnSaid d) : FnSaid (.lam x d) := by
  rintro l base v lv w P ⟨b, c, rfl, hPb, hx, hb, hd⟩ hP hl hbase hlen hl9
  have k0 := hb.cell 0
  have k3 := hb.cell 3
  simp at k0 k3
  have H := Lib.hid (ih l base _ lv w P hd hP hl hbase hlen hl9)
  clear hl hP hb hd ih hlen
  go_enter Tryz.func96, Tryz.ntmps96
  go_wp2_with fail
  refine H.out.mono ?_
  rintro e w1 ⟨v', rfl, h1, h2, h3⟩
  have H1 : Hid (FnPost (freeD d l) base lv w (.returned v') w1) := Lib.hid ⟨v', rfl, h1, h2, h3⟩
  clear h1 h2 h3
  go_wp2_with fail
  go_ret
  exact H1.out

set_option maxRecDepth 100000 in
set_option maxHeartbeats 4000000 in
theorem freeNames_app (f a : DB) (ihf : FnSaid f) (iha : FnSaid a) : FnSaid (.app f a) := by
  rintro l base v lv w P ⟨b, c, d, rfl, hPb, hb, hf, ha⟩ hP hl hbase hlen hl9
  have k0 := hb.cell 0
  have k3 := hb.cell 3
  have k4 := hb.cell 4
  simp at k0 k3 k4
  have hfl : (freeD f l).length ≤ 9000 := Nat.le_trans (freeD_grows a _) hlen
  have HB := Lib.hid hb
  have HP := Lib.hid hP
  have C1 : Hid (Calls Tryz.prog 96 #[.pointer (some ⟨c, 0, none⟩), lv] w.drew (FnPost (freeD f l) base lv w)) :=
    Lib.hid ((ihf l base _ lv w.drew P (DAt.drewN hf 1) hP hl hbase hfl hl9).mono fun _ _ h => h.drew)
  have C2 : Hid (∀ v' w1, SRow w1 base v' (freeD f l) → w.grownBy w1 lv.ownBlock → (v'.ownBlock = lv.ownBlock ∨ ∃ b, v'.ownBlock = some b ∧ w.heap.size ≤ b) →
      Calls Tryz.prog 96 #[.pointer (some ⟨d, 0, none⟩), v'] w1 (FnPost (freeD (.app f a) l) base lv w)) :=
    Lib.hid (fun v' w1 h1 h2 h3 => (iha (freeD f l) base _ v' w1 P (ha.far hP h2) (fun q hq => ⟨by have := (hP q hq).1; have := h2.size; omega, by
        rcases h3 with h3 | ⟨q', h3, h4⟩
        · rw [h3]; exact (hP q hq).2
        · rw [h3]; intro e; injection e with e; have := (hP q hq).1; omega⟩) h1 (by have := h2.size; omega) hlen hfl).mono fun e w2 hh => by
      obtain ⟨v2, rfl, g1, g2, g3⟩ := hh
      refine ⟨v2, rfl, g1, grown_two h2 g2 h3, ?_⟩
      rcases g3 with g3 | ⟨q, g3, g4⟩
      · rw [g3]; exact h3
      · exact .inr ⟨q, g3, by have := h2.size; omega⟩)
  clear hb hf ha hP hl ihf iha hlen hfl
  go_enter Tryz.func96, Tryz.ntmps96
  go_wp2
  go_region_with (first
    | (go_at_call 96; (with_reducible refine C1.out.mono ?_); rintro e w1 ⟨v', rfl, h1, h2, h3⟩; have hb1 := HB.out.grown h2 (HP.out b hPb).2; have k4' := hb1.cell 4; simp at k4'; have HH := Lib.hid (C2.out v' w1 h1 h2 h3); clear h1 h2 h3 hb1)
    | (go_at_call 96; (with_reducible refine HH.out.mono ?_); rintro e w2 ⟨v2, rfl, g1, g2, g3⟩; have HE : Hid (FnPost (freeD (.app f a) l) base lv w (.returned v2) w2) := Lib.hid ⟨v2, rfl, g1, g2, g3⟩; clear g1 g2 g3))
  all_goals
    go_wp2
    go_ret
    exact HE.out

theorem freeNames_any (t : DB) : FnSaid t := by
  induction t with
  | free x => exact freeNames_free x
  | bnd i => exact freeNames_bnd i
  | lam x d ih => exact freeNames_lam x d ih
  | app f a ihf iha => exact freeNames_app f a ihf iha

end Go.Proofs.YtjcdclnaplojcaaGreatDoor

namespace Go.Proofs.YtjcdclnaplojcaaGreatDoor
set_option linter.unusedVariables false
open Go.RowKit

theorem Tab.kept {w w' : World} (h : Tab w) (hk : w'.heap[0]? = w.heap[0]?) : Tab w' := by
  have hg : Tryz.prog.globalNamed "internal/strconv.uint64pow10" = some 0 := by kernel_rfl
  unfold Tab Lib.TabIs World.var? at *
  rw [hg] at h ⊢
  simp only [Option.bind_some] at h ⊢
  rw [hk]
  exact h
theorem Tab.lt {w : World} (h : Tab w) : 0 < w.heap.size := by
  have hg : Tryz.prog.globalNamed "internal/strconv.uint64pow10" = some 0 := by kernel_rfl
  unfold Tab Lib.TabIs World.var? at h
  rw [hg] at h
  simp only [Option.bind_some] at h
  rcases Nat.lt_or_ge 0 w.heap.size with h' | h'
  · exact h'
  · rw [Array.getElem?_eq_none h'] at h; simp at h
theorem Tab.below {w w' : World} (h : Tab w) (hb : Below w.heap.size w w') : Tab w' := h.kept (hb.block _ h.lt)
theorem Tab.grown {w w' : World} {r : Option Nat} (h : Tab w) (hg : w.grownBy w' r) (hr : ∀ k, r = some k → 0 < k) : Tab w' := h.kept (hg.block _ h.lt (fun e => by have := hr _ e.symm; omega))

/-- The namer in block nb: the names that are taken, and the next number. -/
abbrev Nmr (w : World) (nb : Nat) (tk : Value) (n : Nat) : Prop := Blk w nb 165 #[tk, .int .i64 n]

/-- What the namer answers. -/
def GvPost (fr : List (List UInt8)) (n nb : Nat) (tk : Value) (w : World) (e : Ending) (w' : World) : Prop :=
  e = .returned (.string ⟨(zN (fresh fr n)).toArray⟩) ∧ w.grownBy w' (some nb) ∧ Nmr w' nb tk (fresh fr n + 1)

set_option maxRecDepth 100000 in
set_option maxHeartbeats 2000000 in
theorem give_any (fr : List (List UInt8)) (n nb base : Nat) (tk : Value) (w : World) (hn : Nmr w nb tk n) (hf : SRow w base tk fr) (ht : Tab w) (hnb : 0 < nb) (hlen : fr.length ≤ 1000) (hn2 : n ≤ 900000) :
    Calls Tryz.prog 115 #[.pointer (some ⟨nb, 0, none⟩)] w (GvPost fr n nb tk w) := by
  obtain ⟨A, c, rfl⟩ := own_shape hf
  obtain ⟨f1, f2, f3, f4⟩ := fresh_spec fr n
  have HF3 := Lib.hid f3
  have HF4 := Lib.hid f4
  have HN := Lib.hid hn
  have HF := Lib.hid hf
  have HT := Lib.hid ht
  generalize hm : fresh fr n = M at f1 f2 HF3 HF4
  have HM := Lib.hid hm
  clear hn hf ht f3 f4 hm
  go_enter Tryz.func115, Tryz.ntmps115
  go_wp2
  go_loopg [] (M - n) (fun q wr => ∃ m, n ≤ m ∧ m + q = M ∧ w.grownBy wr (some nb) ∧ Hid (Nmr wr nb (.slice A fr.length c) m))
  case atStart => exact ⟨n, Nat.le_refl _, by omega, grown_refl _ _, HN⟩
  case round =>
    obtain ⟨m, hnm, hmq, hg, HR⟩ := hrel
    have c0 := HR.out.cell 0
    have c1 := HR.out.cell 1
    have cl := HR.out.lt
    simp at c0 c1
    have hT : Tab wr := HT.out.grown hg (fun k e => by injection e with e; omega)
    have HTR := Lib.hid hT
    have HG := Lib.hid hg
    have hmM : m ≤ M := by omega
    have hdl := dec_le m
    have HMQ := Lib.hid hmq
    clear hT hg hmq
    go_wp2_with fail
    refine (itoa_any m (by omega) _ HTR.out).mono ?_
    rintro e w1 ⟨rfl, hb1⟩
    have hn1 := HR.out.below hb1 cl
    have d0 := hn1.cell 0
    have d1 := hn1.cell 1
    have df := hn1.frozen 1
    have dl := hn1.lt
    simp at d0 d1
    have HN1 := Lib.hid hn1
    have HB1 := Lib.hid hb1
    clear hn1 hb1 c0 c1
    go_wp2_with fail
    rw [z_bytes]
    have hs2 : SRow (w1.setCell ⟨nb, 1, none⟩ (.int .i64 ((m : Int) + 1))) base (.slice A fr.length c) fr := by
      have hk1 : SRow w1 base (.slice A fr.length c) fr := HF.out.kept (HG.out.trans (grown_of_below HB1.out (some nb))) (by
        cases h1 : (Value.slice A fr.length c).ownBlock with
        | none => exact .inl rfl
        | some q => exact .inr fun e => row_not HN.out HF.out (by decide) (by rw [h1]; exact e.symm))
      exact ownsRow_far hk1 (fun e => row_not HN1.out hk1 (by decide) e.symm) _
    have hn2' : Nmr (w1.setCell ⟨nb, 1, none⟩ (.int .i64 ((m : Int) + 1))) nb (.slice A fr.length c) (m + 1) := by
      have := HN1.out.set_ 1 (.int .i64 ((m : Int) + 1))
      have e : ((m + 1 : Nat) : Int) = (m : Int) + 1 := by omega
      unfold Nmr
      rw [e]
      simpa using this
    have hg2 : w.grownBy (w1.setCell ⟨nb, 1, none⟩ (.int .i64 ((m : Int) + 1))) (some nb) := (HG.out.trans (grown_of_below HB1.out (some nb))).trans (grown_set _ _ _ _)
    have HS2 := Lib.hid hs2
    have HN2 := Lib.hid hn2'
    have HG2 := Lib.hid hg2
    clear hs2 hn2' hg2
    refine (sContains_any fr (122 :: Lib.decDigits m) base _ _ HS2.out (by omega)).mono ?_
    rintro e w2 ⟨rfl, rfl⟩
    by_cases hin : zN m ∈ fr
    · have hd : decide (122 :: Lib.decDigits m ∈ fr) = true := decide_eq_true hin
      have hmM2 : m < M := by
        rcases Nat.lt_or_ge m M with h | h
        · exact h
        · have e : m = M := by omega
          rw [e] at hin
          exact absurd hin HF4.out
      go_wp2
      go_roundg (M - (m + 1))
      case rel => exact ⟨m + 1, by omega, by omega, HG2.out, HN2⟩
      case measure => have := HMQ.out; omega
    · have hd : decide (122 :: Lib.decDigits m ∈ fr) = false := decide_eq_false hin
      have hmM2 : m = M := by
        rcases Nat.lt_or_ge m M with h | h
        · exact absurd (HF3.out m hnm h) hin
        · omega
      have HE := Lib.hid hmM2
      clear hmM2 hin
      go_wp2
      go_ret
      refine ⟨?_, HG2.out, ?_⟩
      · rw [HM.out, ← HE.out]; rfl
      · rw [HM.out, ← HE.out]; exact HN2.out
/-- What renaming answers. -/
def RnPost (fr : List (List UInt8)) (d : DB) (n nb : Nat) (tk : Value) (w : World) (e : Ending) (w' : World) : Prop :=
  ∃ b, e = .returned (.pointer (some ⟨b, 0, none⟩)) ∧ DTm w' (renD fr d n).1 (.pointer (some ⟨b, 0, none⟩)) ∧ w.grownBy w' (some nb) ∧ Nmr w' nb tk (renD fr d n).2
def RnSaid (d : DB) : Prop := ∀ (v : Value) (fr : List (List UInt8)) (n nb base : Nat) (tk : Value) (w : World), DTm w d v → Nmr w nb tk n → SRow w base tk fr → Tab w → 0 < nb → fr.length ≤ 999 → n + d.size * 1000 ≤ 900000 →
  Calls Tryz.prog 95 #[v, .pointer (some ⟨nb, 0, none⟩)] w (RnPost fr d n nb tk w)
theorem rename_free (x : List UInt8) : RnSaid (.free x) := by
  rintro v fr n nb base tk w hd hn hf ht hnb hlen hsz
  obtain ⟨b, rfl, _, hx, hb⟩ := id hd
  have k0 := hb.cell 0
  have k1 := hb.cell 1
  have k2 := hb.cell 2
  have k3 := hb.cell 3
  have k4 := hb.cell 4
  simp at k0 k1 k2 k3 k4
  have HN := Lib.hid hn
  have HX := Lib.hid hx
  clear hd hn hf ht hb hx
  go_enter Tryz.func95, Tryz.ntmps95
  go_wp2_with fail
  go_ret
  exact ⟨w.heap.size, rfl, ⟨w.heap.size, rfl, trivial, HX.out, Blk.new _ _ _⟩, World.grownBy_alloc _ _ _, HN.out.alloc _⟩
theorem rename_bnd (i : Nat) : RnSaid (.bnd i) := by
  rintro v fr n nb base tk w hd hn hf ht hnb hlen hsz
  obtain ⟨b, rfl, _, hb⟩ := id hd
  have k0 := hb.cell 0
  have k1 := hb.cell 1
  have k2 := hb.cell 2
  have k3 := hb.cell 3
  have k4 := hb.cell 4
  simp at k0 k1 k2 k3 k4
  have HN := Lib.hid hn
  clear hd hn hf ht hb
  go_enter Tryz.func95, Tryz.ntmps95
  go_wp2_with fail
  go_ret
  exact ⟨w.heap.size, rfl, ⟨w.heap.size, rfl, trivial, Blk.new _ _ _⟩, World.grownBy_alloc _ _ _, HN.out.alloc _⟩
set_option maxRecDepth 100000 in
theorem rename_lam (x : List UInt8) (d : DB) (ih : RnSaid d) : RnSaid (.lam x d) := by
  rintro v fr n nb base tk w hd hn hf ht hnb hlen hsz
  obtain ⟨b, c, rfl, _, hx, hb, he⟩ := id hd
  have k0 := hb.cell 0
  simp at k0
  obtain ⟨f1, f2, _, _⟩ := fresh_spec fr n
  have HB := Lib.hid hb
  have HE := Lib.hid he
  have HN := Lib.hid hn
  have HF := Lib.hid hf
  have HT := Lib.hid ht
  have IH := Lib.hid ih
  simp only [DB.size] at hsz
  have HR : Hid (renD fr (.lam x d) n = (.lam (zN (fresh fr n)) (renD fr d (fresh fr n + 1)).1, (renD fr d (fresh fr n + 1)).2)) := Lib.hid rfl
  clear hd hn hf ht hb he ih
  go_enter Tryz.func95, Tryz.ntmps95
  go_wp2_with fail
  refine (give_any fr n nb base _ _ HN.out HF.out HT.out hnb (by omega) (by omega)).mono ?_
  rintro e w1 ⟨rfl, hg1, hn1⟩
  have hb1 := HB.out.grown hg1 (fun e => HB.out.ne2 HN.out (by decide) (Option.some.inj e))
  have k3 := hb1.cell 3
  simp at k3
  have HE1 := Lib.hid (HE.out.far2 HN.out (by decide) hg1)
  have HF1 := Lib.hid (HF.out.far2 HN.out (by decide) hg1)
  have HT1 := Lib.hid (HT.out.grown hg1 (fun k e => by injection e with e; omega))
  have HN1 := Lib.hid hn1
  have HG1 := Lib.hid hg1
  clear hg1 hn1 hb1
  go_wp2_with fail
  refine (IH.out _ fr (fresh fr n + 1) nb base tk _ HE1.out HN1.out HF1.out HT1.out hnb hlen (by omega)).mono ?_
  rintro e w2 ⟨b2, rfl, hd2, hg2, hn2⟩
  have HD2 := Lib.hid hd2
  have HG2 := Lib.hid (HG1.out.trans hg2)
  have HN2 := Lib.hid hn2
  clear hd2 hg2 hn2
  go_wp2_with fail
  refine (newLam_any (zN (fresh fr n)) b2 _).mono ?_
  rintro e w3 ⟨rfl, rfl⟩
  go_wp2_with fail
  go_ret
  refine ⟨w2.heap.size, rfl, ?_, HG2.out.trans (World.grownBy_alloc _ _ _), ?_⟩
  · rw [HR.out]
    exact ⟨w2.heap.size, b2, rfl, trivial, zN_short _ (by omega), Blk.new _ _ _, HD2.out.keep fun q cs hk => hk.alloc _⟩
  · rw [HR.out]; exact HN2.out.alloc _

set_option maxRecDepth 100000 in
theorem rename_app (f a : DB) (ihf : RnSaid f) (iha : RnSaid a) : RnSaid (.app f a) := by
  rintro v fr n nb base tk w hd hn hf ht hnb hlen hsz
  obtain ⟨b, c, e, rfl, _, hb, hdf, hda⟩ := id hd
  have k0 := hb.cell 0
  have k3 := hb.cell 3
  simp at k0 k3
  have hnx := renD_next fr hlen f n
  have HB := Lib.hid hb
  have HDF := Lib.hid hdf
  have HDA := Lib.hid hda
  have HN := Lib.hid hn
  have HF := Lib.hid hf
  have HT := Lib.hid ht
  have IHF := Lib.hid ihf
  have IHA := Lib.hid iha
  simp only [DB.size] at hsz
  have HR : Hid (renD fr (.app f a) n = (.app (renD fr f n).1 (renD fr a (renD fr f n).2).1, (renD fr a (renD fr f n).2).2)) := Lib.hid rfl
  clear hd hn hf ht hb hdf hda ihf iha
  go_enter Tryz.func95, Tryz.ntmps95
  go_wp2_with fail
  refine (IHF.out _ fr n nb base tk _ HDF.out HN.out HF.out HT.out hnb hlen (by omega)).mono ?_
  rintro e w1 ⟨b1, rfl, hd1, hg1, hn1⟩
  have hb1 := HB.out.grown hg1 (fun e => HB.out.ne2 HN.out (by decide) (Option.some.inj e))
  have k4 := hb1.cell 4
  simp at k4
  have HDA1 := Lib.hid (HDA.out.far2 HN.out (by decide) hg1)
  have HF1 := Lib.hid (HF.out.far2 HN.out (by decide) hg1)
  have HT1 := Lib.hid (HT.out.grown hg1 (fun k e => by injection e with e; omega))
  have HN1 := Lib.hid hn1
  have HG1 := Lib.hid hg1
  have HD1 := Lib.hid hd1
  clear hg1 hn1 hb1 hd1
  go_wp2_with fail
  refine (IHA.out _ fr _ nb base tk _ HDA1.out HN1.out HF1.out HT1.out hnb hlen (by omega)).mono ?_
  rintro e w2 ⟨b2, rfl, hd2, hg2, hn2⟩
  have HD12 := Lib.hid (HD1.out.far2 HN1.out (by decide) hg2)
  have HD2 := Lib.hid hd2
  have HG2 := Lib.hid (HG1.out.trans hg2)
  have HN2 := Lib.hid hn2
  clear hd2 hg2 hn2
  go_wp2_with fail
  refine (newApp_any b1 b2 _).mono ?_
  rintro e w3 ⟨rfl, rfl⟩
  go_wp2_with fail
  go_ret
  refine ⟨w2.heap.size, rfl, ?_, HG2.out.trans (World.grownBy_alloc _ _ _), ?_⟩
  · rw [HR.out]
    exact ⟨w2.heap.size, b1, b2, rfl, trivial, Blk.new _ _ _, HD12.out.keep fun q cs hk => hk.alloc _, HD2.out.keep fun q cs hk => hk.alloc _⟩
  · rw [HR.out]; exact HN2.out.alloc _
theorem rename_any (d : DB) : RnSaid d := by
  induction d with
  | free x => exact rename_free x
  | bnd i => exact rename_bnd i
  | lam x d ih => exact rename_lam x d ih
  | app f a ihf iha => exact rename_app f a ihf iha
end Go.Proofs.YtjcdclnaplojcaaGreatDoor

