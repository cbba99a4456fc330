/- The ways that Way's closure grows, as a fold, and the best of them so far. -/
import Derived.Test.YtclhamemlpbpiaaHl
namespace Go.Proofs.Ytclhamemlpbpiaa

def pickW (B : Option (List Int)) (L : List Int) : Option (List Int) :=
  match B with
  | none => some L
  | some v => if L.length < v.length then some L else some v
/-- A step brings the end nearer by its cost. -/
def nxW (S T : Nat → Int) (b a x : Nat) : Bool := !decide (x = a) && decide (S (8 * a + x) + T (8 * x + b) = T (8 * a + b))
theorem nxW_iff {S T : Nat → Int} {b a x : Nat} : nxW S T b a x = true ↔ x ≠ a ∧ S (8 * a + x) + T (8 * x + b) = T (8 * a + b) := by
  simp [nxW]
def wyF (n : Nat) (S T : Nat → Int) (b : Nat) : Nat → List Int → Nat → Option (List Int) → Option (List Int)
  | 0, L, a, B => if a = b then pickW B L else B
  | f + 1, L, a, B => if a = b then pickW B L else (List.range n).foldl (fun B x => if nxW S T b a x = true then wyF n S T b f (L ++ [(x : Int)]) x B else B) B
/-- After k rounds. -/
def wyS (n : Nat) (S T : Nat → Int) (b f : Nat) (L : List Int) (a : Nat) (B : Option (List Int)) : Nat → Option (List Int)
  | 0 => B
  | k + 1 => if nxW S T b a k = true then wyF n S T b f (L ++ [(k : Int)]) k (wyS n S T b f L a B k) else wyS n S T b f L a B k
theorem wyS_fold {n : Nat} {S T : Nat → Int} {b f : Nat} {L : List Int} {a : Nat} {B : Option (List Int)} : ∀ k, (List.range k).foldl (fun B x => if nxW S T b a x = true then wyF n S T b f (L ++ [(x : Int)]) x B else B) B = wyS n S T b f L a B k := by
  intro k
  induction k with
  | zero => rfl
  | succ k ih =>
    rw [List.range_succ, List.foldl_append, ih]
    rfl
theorem wyF_end {n : Nat} {S T : Nat → Int} {b : Nat} (f : Nat) {L : List Int} {B : Option (List Int)} : wyF n S T b f L b B = pickW B L := by
  cases f <;> simp [wyF]
theorem wyF_step {n : Nat} {S T : Nat → Int} {b f a : Nat} {L : List Int} {B : Option (List Int)} (h : a ≠ b) : wyF n S T b (f + 1) L a B = wyS n S T b f L a B n := by
  rw [wyF, if_neg h, wyS_fold]
end Go.Proofs.Ytclhamemlpbpiaa
