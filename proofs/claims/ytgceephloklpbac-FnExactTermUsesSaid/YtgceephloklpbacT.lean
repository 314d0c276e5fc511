/- The program's size of a term. -/
import Derived.Test.YtgceephloklpbacT0
namespace Go.Proofs.Ytgceephloklpbac
set_option linter.unusedVariables false
open Go.RowKit

theorem dbSize_any : ∀ (t : DB) (v : Value) (w : World) (P : Nat → Prop), DAt w P t v → t.size ≤ 10000 →
    Calls Try.prog 34 #[v] w fun e w' => e = .returned (.int .i64 t.size) ∧ ∃ n, w' = w.drewN n := by
  intro t
  induction t with
  | free x =>
    rintro v w P ⟨b, rfl, hP, hl, hb⟩ hsz
    have k0 := hb.cell 0
    simp at k0
    clear hb
    go_enter Try.func34, Try.ntmps34
    go_wp2
    go_ret
    exact ⟨rfl, 0, rfl⟩
  | bnd i =>
    rintro v w P ⟨b, rfl, hP, hb⟩ hsz
    have k0 := hb.cell 0
    simp at k0
    clear hb
    go_enter Try.func34, Try.ntmps34
    go_wp2
    go_ret
    exact ⟨rfl, 0, rfl⟩
  | lam x d ih =>
    rintro v w P ⟨b, c, rfl, hP, hl, hb, hd⟩ hsz
    have k0 := hb.cell 0
    have k3 := hb.cell 3
    simp at k0 k3
    have HD := Lib.hid hd
    have IH := Lib.hid ih
    have hsz' : d.size + 1 ≤ 10000 := by simp only [DB.size] at hsz; omega
    clear hb hd ih hsz
    go_enter Try.func34, Try.ntmps34
    go_wp2_with fail
    refine (IH.out _ _ P HD.out (by omega)).mono ?_
    rintro e w1 ⟨rfl, n, rfl⟩
    go_wp2_with fail
    go_ret
    exact ⟨ret_int (by simp only [DB.size]; omega), n, rfl⟩
  | app f a ihf iha =>
    rintro v w P ⟨b, c, d, rfl, hP, hb, hf, ha⟩ hsz
    have k0 := hb.cell 0
    have k3 := hb.cell 3
    have k4 := hb.cell 4
    simp at k0 k3 k4
    have HF := Lib.hid hf
    have HA := Lib.hid ha
    have IHF : Hid (∀ n, Calls Try.prog 34 #[.pointer (some ⟨c, 0, none⟩)] (w.drewN n) fun e w' => e = .returned (.int .i64 f.size) ∧ ∃ m, w' = w.drewN m) :=
      Lib.hid (fun n => (ihf _ (w.drewN n) P (hf.drewN n) (by simp only [DB.size] at hsz; omega)).mono fun _ _ ⟨he, m, hm⟩ => ⟨he, n + m, by rw [hm, World.drewN_drewN]⟩)
    have IHA : Hid (∀ n, Calls Try.prog 34 #[.pointer (some ⟨d, 0, none⟩)] (w.drewN n) fun e w' => e = .returned (.int .i64 a.size) ∧ ∃ m, w' = w.drewN m) :=
      Lib.hid (fun n => (iha _ (w.drewN n) P (ha.drewN n) (by simp only [DB.size] at hsz; omega)).mono fun _ _ ⟨he, m, hm⟩ => ⟨he, n + m, by rw [hm, World.drewN_drewN]⟩)
    have hsz' : f.size + a.size + 1 ≤ 10000 := by simp only [DB.size] at hsz; omega
    clear hb hf ha ihf iha hsz
    go_enter Try.func34, Try.ntmps34
    go_wp2
    go_quiet ((first
      | (go_at_call 34; with_reducible exact IHF.out _)
      | (go_at_call 34; with_reducible exact IHA.out _)))
    go_wp2
    go_ret
    refine ⟨ret_int ?_, _, rfl⟩
    simp only [DB.size]
    omega

end Go.Proofs.Ytgceephloklpbac
