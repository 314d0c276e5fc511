/- Free names in the order in which each one stands free first: plain mathematics. -/
import Derived.Test.YtjcdclnaplojcaaGreatDoorN
namespace Go.Proofs.YtjcdclnaplojcaaGreatDoor
set_option linter.unusedVariables false

/-- Free names are added to a list, by a list of bound ones. -/
def freeS (bound : List (List UInt8)) : Tm → List (List UInt8) → List (List UInt8)
  | .var x, l => if x ∈ bound ∨ x ∈ l then l else l ++ [x]
  | .lam x b, l => freeS (bound ++ [x]) b l
  | .app f a, l => freeS bound a (freeS bound f l)
/-- .. by depths. -/
def freeD : DB → List (List UInt8) → List (List UInt8)
  | .free x, l => if x ∈ l then l else l ++ [x]
  | .bnd _, l => l
  | .lam _ b, l => freeD b l
  | .app f a, l => freeD a (freeD f l)

theorem freeS_congr (t : Tm) : ∀ (b1 b2 : List (List UInt8)) (l : List (List UInt8)), (∀ x, x ∈ b1 ↔ x ∈ b2) → freeS b1 t l = freeS b2 t l := by
  induction t with
  | var x => intro b1 b2 l h; simp [freeS, h x]
  | lam x b ih => intro b1 b2 l h; exact ih _ _ _ (fun y => by simp [h y])
  | app f a ihf iha => intro b1 b2 l h; simp only [freeS]; rw [ihf b1 b2 l h, iha b1 b2 _ h]

theorem freeD_toDB (t : Tm) : ∀ (rs : List (List UInt8)) (l : List (List UInt8)), freeD (toDB rs t) l = freeS rs t l := by
  induction t with
  | var x =>
    intro rs l
    unfold toDB
    cases h : lk rs x with
    | some i =>
      have hx : x ∈ rs := by
        rcases Classical.em (x ∈ rs) with h1 | h1
        · exact h1
        · rw [(lk_none rs x).2 h1] at h; cases h
      simp [freeD, freeS, hx]
    | none =>
      have hx := (lk_none rs x).1 h
      simp [freeD, freeS, hx]
  | lam x b ih =>
    intro rs l
    simp only [toDB, freeD, freeS, ih]
    exact freeS_congr b _ _ l (fun y => by simp [or_comm])
  | app f a ihf iha => intro rs l; simp only [toDB, freeD, freeS, ihf, iha]

theorem freeS_length (t : Tm) : ∀ (b l : List (List UInt8)), (freeS b t l).length ≤ l.length + t.atoms := by
  induction t with
  | var x => intro b l; simp only [freeS, Tm.atoms]; split <;> simp
  | lam x d ih => intro b l; have := ih (b ++ [x]) l; simp only [freeS, Tm.atoms]; omega
  | app f a ihf iha => intro b l; have h1 := ihf b l; have h2 := iha b (freeS b f l); simp only [freeS, Tm.atoms]; omega

/-- The digits of a number, ahead of a text. -/
def mkD : Nat → Nat → List UInt8 → List UInt8
  | 0, _, acc => acc
  | f + 1, k, acc => if k = 0 then acc else mkD f (k / 10) ((48 + UInt8.ofNat (k % 10)) :: acc)
/-- The mark of a number that is not 0. -/
def mkT (k : Nat) : List UInt8 := 109 :: mkD k k []
/-- So many marks from k on. -/
def mkTs (k n : Nat) : List (List UInt8) := (List.range n).map fun i => mkT (k + i)

end Go.Proofs.YtjcdclnaplojcaaGreatDoor
