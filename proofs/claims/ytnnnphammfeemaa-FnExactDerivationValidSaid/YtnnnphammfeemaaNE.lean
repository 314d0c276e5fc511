/- The program makes a node of derivations. -/
import Derived.Test.YtnnnphammfeemaaND
namespace Go.Proofs.Ytnnnphammfeemaa
set_option linter.unusedVariables false
set_option linter.unusedSimpArgs false
open Go.RowKit

set_option maxRecDepth 100000 in
theorem nodeOf_fun_1 (k : Bool) (xs : List Value) (n g cap : Nat) (w : World) (h : NoIn w g cap n xs) (hn : n = 1) :
    Calls Try.prog 27 #[.string ⟨#[102, 117, 110]⟩, .slice (some ⟨g, 0, none⟩) n cap, .string ⟨(kindT k).toArray⟩] w (NdPost k g sFun xs w) := by
  subst hn
  obtain ⟨y, rfl⟩ : ∃ y, xs = [y] := by
    have := h.len
    match xs, this with
    | [y], _ => exact ⟨y, rfl⟩
  obtain ⟨T, q, rfl⟩ := h.ifc y (List.mem_cons_self ..)
  have c0 := h.cells 0 _ rfl
  have hcap := h.le
  have hlt := h.lt
  clear h
  go_enter Try.func27, Try.ntmps27
  go_wp2_with fail
  go_ret2
  exact ⟨(Below.refl _ _).alloc (Nat.le_refl _) _, .inl ⟨by simp [ndOk, sFun, sTfun, sHap], _, rfl, .inl ⟨rfl, _, _, rfl, rfl, .inr ⟨Nat.le_refl _, by simp⟩, Blk.new _ _ _⟩⟩⟩
set_option maxRecDepth 100000 in
theorem nodeOf_tfun_1 (k : Bool) (xs : List Value) (n g cap : Nat) (w : World) (h : NoIn w g cap n xs) (hn : n = 1) :
    Calls Try.prog 27 #[.string ⟨#[116, 102, 117, 110]⟩, .slice (some ⟨g, 0, none⟩) n cap, .string ⟨(kindT k).toArray⟩] w (NdPost k g sTfun xs w) := by
  subst hn
  obtain ⟨y, rfl⟩ : ∃ y, xs = [y] := by
    have := h.len
    match xs, this with
    | [y], _ => exact ⟨y, rfl⟩
  obtain ⟨T, q, rfl⟩ := h.ifc y (List.mem_cons_self ..)
  have c0 := h.cells 0 _ rfl
  have hcap := h.le
  have hlt := h.lt
  clear h
  go_enter Try.func27, Try.ntmps27
  go_wp2_with fail
  go_ret2
  exact ⟨(Below.refl _ _).alloc (Nat.le_refl _) _, .inl ⟨by simp [ndOk, sFun, sTfun, sHap], _, rfl, .inr (.inl ⟨rfl, _, _, rfl, rfl, .inr ⟨Nat.le_refl _, by simp⟩, Blk.new _ _ _⟩)⟩⟩
set_option maxRecDepth 100000 in
theorem nodeOf_hap_1 (xs : List Value) (n g cap : Nat) (w : World) (h : NoIn w g cap n xs) (hn : n = 1) :
    Calls Try.prog 27 #[.string ⟨#[104, 97, 112]⟩, .slice (some ⟨g, 0, none⟩) n cap, .string ⟨#[104, 101, 97, 100]⟩] w (NdPost true g sHap xs w) := by
  subst hn
  obtain ⟨y, rfl⟩ : ∃ y, xs = [y] := by
    have := h.len
    match xs, this with
    | [y], _ => exact ⟨y, rfl⟩
  obtain ⟨T, q, rfl⟩ := h.ifc y (List.mem_cons_self ..)
  have c0 := h.cells 0 _ rfl
  have hcap := h.le
  have hlt := h.lt
  clear h
  go_enter Try.func27, Try.ntmps27
  go_wp2_with fail
  go_ret2
  exact ⟨(Below.refl _ _).alloc (Nat.le_refl _) _, .inl ⟨by simp [ndOk, sFun, sTfun, sHap], _, rfl, .inr (.inr (.inl ⟨rfl, _, _, rfl, rfl, .inr ⟨Nat.le_refl _, by simp⟩, Blk.new _ _ _⟩))⟩⟩
set_option maxRecDepth 100000 in
theorem nodeOf_fun_no (k : Bool) (xs : List Value) (n g cap : Nat) (w : World) (h : NoIn w g cap n xs) (hn : n ≠ 1) :
    Calls Try.prog 27 #[.string ⟨#[102, 117, 110]⟩, .slice (some ⟨g, 0, none⟩) n cap, .string ⟨(kindT k).toArray⟩] w (NdPost k g sFun xs w) := by
  have hl := h.len
  have hb1 : ((n : Int) == 1) = false := beq_eq_false_iff_ne.2 (by omega)
  have HN : Hid (ndOk k sFun xs.length = false) := Lib.hid (by simp [ndOk, sFun, sTfun, sHap, sApp, sTap, hl]; try omega)
  clear h hl hn
  go_enter Try.func27, Try.ntmps27
  go_wp2_with fail
  all_goals
    go_ret2
    exact ⟨Below.refl _ _, .inr ⟨HN.out, rfl⟩⟩
set_option maxRecDepth 100000 in
theorem nodeOf_tfun_no (k : Bool) (xs : List Value) (n g cap : Nat) (w : World) (h : NoIn w g cap n xs) (hn : n ≠ 1) :
    Calls Try.prog 27 #[.string ⟨#[116, 102, 117, 110]⟩, .slice (some ⟨g, 0, none⟩) n cap, .string ⟨(kindT k).toArray⟩] w (NdPost k g sTfun xs w) := by
  have hl := h.len
  have hb1 : ((n : Int) == 1) = false := beq_eq_false_iff_ne.2 (by omega)
  have HN : Hid (ndOk k sTfun xs.length = false) := Lib.hid (by simp [ndOk, sFun, sTfun, sHap, sApp, sTap, hl]; try omega)
  clear h hl hn
  go_enter Try.func27, Try.ntmps27
  go_wp2_with fail
  all_goals
    go_ret2
    exact ⟨Below.refl _ _, .inr ⟨HN.out, rfl⟩⟩
set_option maxRecDepth 100000 in
theorem nodeOf_hap_no (xs : List Value) (n g cap : Nat) (w : World) (h : NoIn w g cap n xs) (hn : n ≠ 1) :
    Calls Try.prog 27 #[.string ⟨#[104, 97, 112]⟩, .slice (some ⟨g, 0, none⟩) n cap, .string ⟨#[104, 101, 97, 100]⟩] w (NdPost true g sHap xs w) := by
  have hl := h.len
  have hb1 : ((n : Int) == 1) = false := beq_eq_false_iff_ne.2 (by omega)
  have HN : Hid (ndOk true sHap xs.length = false) := Lib.hid (by simp [ndOk, sFun, sTfun, sHap, sApp, sTap, hl]; try omega)
  clear h hl hn
  go_enter Try.func27, Try.ntmps27
  go_wp2_with fail
  all_goals
    go_ret2
    exact ⟨Below.refl _ _, .inr ⟨HN.out, rfl⟩⟩
set_option maxRecDepth 100000 in
theorem nodeOf_hap_full (xs : List Value) (n g cap : Nat) (w : World) (h : NoIn w g cap n xs) (hn : True) :
    Calls Try.prog 27 #[.string ⟨#[104, 97, 112]⟩, .slice (some ⟨g, 0, none⟩) n cap, .string ⟨#[102, 117, 108, 108]⟩] w (NdPost false g sHap xs w) := by
  have hl := h.len
  have HN : Hid (ndOk false sHap xs.length = false) := Lib.hid (by simp [ndOk, sFun, sTfun, sHap, sApp, sTap, hl]; try omega)
  clear h hl hn
  go_enter Try.func27, Try.ntmps27
  go_wp2_with fail
  all_goals
    go_ret2
    exact ⟨Below.refl _ _, .inr ⟨HN.out, rfl⟩⟩
set_option maxRecDepth 100000 in
theorem nodeOf_tap_no (xs : List Value) (n g cap : Nat) (w : World) (h : NoIn w g cap n xs) (hn : n ≠ 2) :
    Calls Try.prog 27 #[.string ⟨#[116, 97, 112]⟩, .slice (some ⟨g, 0, none⟩) n cap, .string ⟨#[102, 117, 108, 108]⟩] w (NdPost false g sTap xs w) := by
  have hl := h.len
  have hb2 : ((n : Int) == 2) = false := beq_eq_false_iff_ne.2 (by omega)
  have HN : Hid (ndOk false sTap xs.length = false) := Lib.hid (by simp [ndOk, sFun, sTfun, sHap, sApp, sTap, hl]; try omega)
  clear h hl hn
  go_enter Try.func27, Try.ntmps27
  go_wp2_with fail
  all_goals
    go_ret2
    exact ⟨Below.refl _ _, .inr ⟨HN.out, rfl⟩⟩
set_option maxRecDepth 100000 in
theorem nodeOf_tap_head (xs : List Value) (n g cap : Nat) (w : World) (h : NoIn w g cap n xs) (hn : True) :
    Calls Try.prog 27 #[.string ⟨#[116, 97, 112]⟩, .slice (some ⟨g, 0, none⟩) n cap, .string ⟨#[104, 101, 97, 100]⟩] w (NdPost true g sTap xs w) := by
  have hl := h.len
  have HN : Hid (ndOk true sTap xs.length = false) := Lib.hid (by simp [ndOk, sFun, sTfun, sHap, sApp, sTap, hl]; try omega)
  clear h hl hn
  go_enter Try.func27, Try.ntmps27
  go_wp2_with fail
  all_goals
    go_ret2
    exact ⟨Below.refl _ _, .inr ⟨HN.out, rfl⟩⟩
set_option maxHeartbeats 1000000 in
set_option maxRecDepth 100000 in
theorem nodeOf_tap_2 (xs : List Value) (n g cap : Nat) (w : World) (h : NoIn w g cap n xs) (hn : n = 2) :
    Calls Try.prog 27 #[.string ⟨#[116, 97, 112]⟩, .slice (some ⟨g, 0, none⟩) n cap, .string ⟨#[102, 117, 108, 108]⟩] w (NdPost false g sTap xs w) := by
  subst hn
  obtain ⟨y, z, rfl⟩ : ∃ y z, xs = [y, z] := by
    have := h.len
    match xs, this with
    | [y, z], _ => exact ⟨y, z, rfl⟩
  obtain ⟨T, q, rfl⟩ := h.ifc y (by simp)
  obtain ⟨T', q', rfl⟩ := h.ifc z (by simp)
  have c0 := h.cells 0 _ rfl
  have c1 := h.cells 1 _ rfl
  have hcap := h.le
  have hlt := h.lt
  clear h
  go_enter Try.func27, Try.ntmps27
  go_wp2_with fail
  go_region
  all_goals
    go_wp2
    go_ret2
    refine ⟨by first | exact ((Below.refl _ _).drew).alloc (by simp) _ | exact ((Below.refl _ _).alloc (by simp) _).drew | exact (Below.refl _ _).alloc (by simp) _, .inl ⟨by simp [ndOk, sFun, sTfun, sHap, sApp, sTap], _, rfl, ?_⟩⟩
    exact .inr (.inr (.inr (.inl ⟨rfl, _, _, _, rfl, rfl, .inr ⟨by simp, by simp⟩, Blk.new _ _ _⟩)))
set_option maxHeartbeats 1000000 in
set_option maxRecDepth 100000 in
theorem nodeOf_app (k : Bool) (xs : List Value) (n g cap : Nat) (w : World) (h : NoIn w g cap n xs) :
    Calls Try.prog 27 #[.string ⟨#[97, 112, 112]⟩, .slice (some ⟨g, 0, none⟩) n cap, .string ⟨(kindT k).toArray⟩] w (NdPost k g sApp xs w) := by
  obtain ⟨y, ys, rfl⟩ : ∃ y ys, xs = y :: ys := by
    have := h.len
    have := h.pos
    match xs with
    | [] => simp at *; omega
    | y :: ys => exact ⟨y, ys, rfl⟩
  obtain ⟨T, q, rfl⟩ := h.ifc y (by simp)
  have c0 := h.cells 0 _ rfl
  have hcap := h.le
  have hlt := h.lt
  have hpos := h.pos
  have hfew := h.few
  have hl : ys.length + 1 = n := by simpa using h.len
  have HC : Hid (∀ j u, ys[j]? = some u → w.cell? ⟨g, 1 + j, none⟩ = some u) := Lib.hid fun j u hu => by rw [Nat.add_comm]; exact h.cells (j + 1) u (by simpa using hu)
  have HN : Hid (ndOk k sApp (Value.iface T (.pointer (some ⟨q, 0, none⟩)) :: ys).length = true) := Lib.hid (by simp [ndOk, sFun, sTfun, sHap, sApp])
  have HL := Lib.hid hl
  clear h hl
  by_cases hc1 : cap = 1
  · subst hc1
    obtain rfl : n = 1 := by omega
    obtain rfl : ys = [] := List.eq_nil_of_length_eq_zero (by have := HL.out; omega)
    go_enter Try.func27, Try.ntmps27
    go_wp2_with fail
    go_region
    all_goals
      go_wp2
      (try rw [show n - 1 = ys.length by have := HL.out; omega])
      first
        | go_ret2
        | refine bodyPost_ret (v := .tuple #[.iface 78 (.pointer (some ⟨w.heap.size, 0, none⟩)), .bool true]) (by simp [results, Try.results27, go_sem]) rfl ?_
      refine ⟨by first | exact ((Below.refl _ _).drew).alloc (by simp) _ | exact ((Below.refl _ _).alloc (by simp) _).drew | exact (Below.refl _ _).alloc (by simp) _, .inl ⟨HN.out, _, rfl, .inr (.inr (.inr (.inr ⟨rfl, _, _, _, g, _, _, rfl, rfl, .inr ⟨by simp, by simp⟩, .inl rfl, Blk.new _ _ _, ?_, ?_⟩)))⟩⟩
      · intro j u hu
        have hj := (List.getElem?_eq_some_iff.1 hu).1
        first
          | (exfalso; have := HL.out; omega)
          | (have h1 := HC.out j u hu
             first
               | exact (Below.cell (p := ⟨g, 1 + j, none⟩) (((Below.refl w.heap.size w).alloc (Nat.le_refl _) _).drew) hlt).trans h1
               | exact (Below.cell (p := ⟨g, 1 + j, none⟩) (((Below.refl w.heap.size w).drew).alloc (Nat.le_refl _) _) hlt).trans h1)
      · have := HL.out
        omega
  · have hc2 : 1 < cap := by omega
    go_enter Try.func27, Try.ntmps27
    go_wp2_with fail
    go_region
    all_goals
      go_wp2
      (try rw [show n - 1 = ys.length by have := HL.out; omega])
      first
        | go_ret2
        | refine bodyPost_ret (v := .tuple #[.iface 78 (.pointer (some ⟨w.heap.size, 0, none⟩)), .bool true]) (by simp [results, Try.results27, go_sem]) rfl ?_
      refine ⟨by first | exact ((Below.refl _ _).drew).alloc (by simp) _ | exact ((Below.refl _ _).alloc (by simp) _).drew | exact (Below.refl _ _).alloc (by simp) _, .inl ⟨HN.out, _, rfl, .inr (.inr (.inr (.inr ⟨rfl, _, _, _, g, _, _, rfl, rfl, .inr ⟨by simp, by simp⟩, .inl rfl, Blk.new _ _ _, ?_, ?_⟩)))⟩⟩
      · intro j u hu
        have hj := (List.getElem?_eq_some_iff.1 hu).1
        first
          | (exfalso; have := HL.out; omega)
          | (have h1 := HC.out j u hu
             first
               | exact (Below.cell (p := ⟨g, 1 + j, none⟩) (((Below.refl w.heap.size w).alloc (Nat.le_refl _) _).drew) hlt).trans h1
               | exact (Below.cell (p := ⟨g, 1 + j, none⟩) (((Below.refl w.heap.size w).drew).alloc (Nat.le_refl _) _) hlt).trans h1)
      · have := HL.out
        omega
theorem nodeOf_other (k : Bool) (x : List UInt8) (hx : x.length ≤ 8000) (h1 : x ≠ sFun) (h2 : x ≠ sTfun) (h3 : x ≠ sHap) (h4 : x ≠ sApp) (h5 : x ≠ sTap) (xs : List Value) (n g cap : Nat) (w : World) (h : NoIn w g cap n xs) :
    Calls Try.prog 27 #[.string ⟨x.toArray⟩, .slice (some ⟨g, 0, none⟩) n cap, .string ⟨(kindT k).toArray⟩] w (NdPost k g x xs w) := by
  have b1 : (x == [102, 117, 110]) = false := beq_eq_false_iff_ne.2 h1
  have b2 : (x == [116, 102, 117, 110]) = false := beq_eq_false_iff_ne.2 h2
  have b3 : (x == [104, 97, 112]) = false := beq_eq_false_iff_ne.2 h3
  have b4 : (x == [97, 112, 112]) = false := beq_eq_false_iff_ne.2 h4
  have b5 : (x == [116, 97, 112]) = false := beq_eq_false_iff_ne.2 h5
  have HN : Hid (ndOk k x xs.length = false) := Lib.hid (by unfold ndOk; rw [if_neg h1, if_neg h2, if_neg h3, if_neg h4, if_neg h5])
  clear h h1 h2 h3 h4 h5
  go_enter Try.func27, Try.ntmps27
  go_wp2_with fail
  all_goals
    go_ret2
    exact ⟨Below.refl _ _, .inr ⟨HN.out, rfl⟩⟩
theorem nodeOf_any (k : Bool) (x : List UInt8) (hx : x.length ≤ 8000) (xs : List Value) (n g cap : Nat) (w : World) (h : NoIn w g cap n xs) :
    Calls Try.prog 27 #[.string ⟨x.toArray⟩, .slice (some ⟨g, 0, none⟩) n cap, .string ⟨(kindT k).toArray⟩] w (NdPost k g x xs w) := by
  by_cases h1 : x = sFun
  · subst h1
    by_cases hn : n = 1
    · exact nodeOf_fun_1 k xs n g cap w h hn
    · exact nodeOf_fun_no k xs n g cap w h hn
  by_cases h2 : x = sTfun
  · subst h2
    by_cases hn : n = 1
    · exact nodeOf_tfun_1 k xs n g cap w h hn
    · exact nodeOf_tfun_no k xs n g cap w h hn
  by_cases h3 : x = sHap
  · subst h3
    cases k with
    | true =>
      by_cases hn : n = 1
      · exact nodeOf_hap_1 xs n g cap w h hn
      · exact nodeOf_hap_no xs n g cap w h hn
    | false => exact nodeOf_hap_full xs n g cap w h trivial
  by_cases h4 : x = sApp
  · subst h4
    exact nodeOf_app k xs n g cap w h
  by_cases h5 : x = sTap
  · subst h5
    cases k with
    | false =>
      by_cases hn : n = 2
      · exact nodeOf_tap_2 xs n g cap w h hn
      · exact nodeOf_tap_no xs n g cap w h hn
    | true => exact nodeOf_tap_head xs n g cap w h trivial
  exact nodeOf_other k x hx h1 h2 h3 h4 h5 xs n g cap w h
end Go.Proofs.Ytnnnphammfeemaa
