/- Rows in order (orders, Some), and the first with the least. -/
import Derived.Test.YtocfbafcplhmiaaBase
namespace Go.Proofs.Ytocfbafcplhmiaa
open Go.RowKit

/-- The rows that 'orders' gives: s different ones of T behind pre. -/
def ordL (T : List Nat) : Nat → List Nat → List (List Nat)
  | 0, pre => [pre]
  | s + 1, pre => (T.filter (fun x => !pre.contains x)).flatMap (fun x => ordL T s (pre ++ [x]))
def extL (T : List Nat) (l : List Nat) : List (List Nat) := (T.filter (fun x => !l.contains x)).map (fun x => l ++ [x])
/-- The reference's 'Some'. -/
def someL (T : List Nat) : Nat → List (List Nat)
  | 0 => [[]]
  | k + 1 => (someL T k).flatMap (extL T)
theorem ordL_ext (T : List Nat) : ∀ s pre, ordL T (s + 1) pre = (ordL T s pre).flatMap (extL T) := by
  intro s
  induction s with
  | zero =>
    intro pre
    show (T.filter (fun x => !pre.contains x)).flatMap (fun x => [pre ++ [x]]) = [pre].flatMap (extL T)
    rw [List.flatMap_singleton]
    unfold extL
    generalize T.filter (fun x => !pre.contains x) = F
    induction F with
    | nil => rfl
    | cons a F ih => rw [List.flatMap_cons, ih]; rfl
  | succ s ih =>
    intro pre
    show (T.filter (fun x => !pre.contains x)).flatMap (fun x => ordL T (s + 1) (pre ++ [x])) = ((T.filter (fun x => !pre.contains x)).flatMap (fun x => ordL T s (pre ++ [x]))).flatMap (extL T)
    rw [List.flatMap_assoc]
    congr 1
    funext x
    exact ih (pre ++ [x])
theorem ordL_some (T : List Nat) : ∀ s, ordL T s [] = someL T s := by
  intro s
  induction s with
  | zero => rfl
  | succ s ih => rw [ordL_ext, ih]; rfl
theorem mem_ordL (T : List Nat) : ∀ s pre l, l ∈ ordL T s pre ↔ ∃ suf, l = pre ++ suf ∧ suf.length = s ∧ (∀ x ∈ suf, x ∈ T ∧ x ∉ pre) ∧ suf.Nodup := by
  intro s
  induction s with
  | zero =>
    intro pre l
    simp only [ordL, List.mem_singleton]
    constructor
    · rintro rfl
      exact ⟨[], by simp, rfl, by simp, List.nodup_nil⟩
    · rintro ⟨suf, rfl, h, _⟩
      rw [List.length_eq_zero_iff.1 h, List.append_nil]
  | succ s ih =>
    intro pre l
    simp only [ordL, List.mem_flatMap, List.mem_filter, ih]
    constructor
    · rintro ⟨x, ⟨hx, hp⟩, suf, rfl, h1, h2, h3⟩
      have hp' : x ∉ pre := by simpa using hp
      refine ⟨x :: suf, by simp, by simp [h1], ?_, ?_⟩
      · intro y hy
        rcases List.mem_cons.1 hy with rfl | hy
        · exact ⟨hx, hp'⟩
        · exact ⟨(h2 y hy).1, fun h => (h2 y hy).2 (List.mem_append_left _ h)⟩
      · exact List.nodup_cons.2 ⟨fun h => (h2 x h).2 (by simp), h3⟩
    · rintro ⟨suf, rfl, h1, h2, h3⟩
      cases suf with
      | nil => cases h1
      | cons x suf =>
        obtain ⟨h4, h5⟩ := List.nodup_cons.1 h3
        refine ⟨x, ⟨(h2 x (by simp)).1, by simpa using (h2 x (by simp)).2⟩, suf, by simp, by simpa using h1, fun y hy => ⟨(h2 y (by simp [hy])).1, fun h => ?_⟩, h5⟩
        rcases List.mem_append.1 h with h | h
        · exact (h2 y (by simp [hy])).2 h
        · rw [List.mem_singleton] at h
          exact h4 (h ▸ hy)
theorem ordL_head : ∀ n, n < 6 → (ordL (List.range n) n []).head? = some (List.range n) := by decide +kernel
/-- The first with the least d. -/
def minF {α : Type} (d : α → Int) : α → List α → α
  | b, [] => b
  | b, x :: xs => minF d (if d x < d b then x else b) xs
theorem minF_append {α : Type} (d : α → Int) (x : α) : ∀ (l : List α) (b : α), minF d b (l ++ [x]) = if d x < d (minF d b l) then x else minF d b l := by
  intro l
  induction l with
  | nil => intro b; rfl
  | cons a l ih => intro b; exact ih _
theorem minF_le {α : Type} (d : α → Int) : ∀ (l : List α) (b : α), d (minF d b l) ≤ d b ∧ ∀ x ∈ l, d (minF d b l) ≤ d x := by
  intro l
  induction l with
  | nil => intro b; exact ⟨Int.le_refl _, by simp⟩
  | cons a l ih =>
    intro b
    obtain ⟨h1, h2⟩ := ih (if d a < d b then a else b)
    have h3 : d (if d a < d b then a else b) ≤ d b ∧ d (if d a < d b then a else b) ≤ d a := by
      split <;> omega
    refine ⟨Int.le_trans h1 h3.1, fun x hx => ?_⟩
    rcases List.mem_cons.1 hx with rfl | hx
    · exact Int.le_trans h1 h3.2
    · exact h2 x hx
theorem minF_mem {α : Type} (d : α → Int) : ∀ (l : List α) (b : α), minF d b l = b ∨ minF d b l ∈ l := by
  intro l
  induction l with
  | nil => intro b; exact .inl rfl
  | cons a l ih =>
    intro b
    show minF d (if d a < d b then a else b) l = b ∨ minF d (if d a < d b then a else b) l ∈ a :: l
    rcases ih (if d a < d b then a else b) with h | h
    · rw [h]
      split
      · exact .inr (by simp)
      · exact .inl rfl
    · exact .inr (List.mem_cons_of_mem _ h)
theorem minF_self {α : Type} (d : α → Int) (x : α) (l : List α) : minF d x (x :: l) = minF d x l := by
  show minF d (if d x < d x then x else x) l = minF d x l
  rw [if_neg (Int.lt_irrefl _)]
end Go.Proofs.Ytocfbafcplhmiaa
