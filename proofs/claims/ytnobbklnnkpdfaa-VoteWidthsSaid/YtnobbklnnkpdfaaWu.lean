/- The first of the shortest widest paths, among all rows and among the rows between (theory). -/
import Derived.Test.YtnobbklnnkpdfaaWq
import Derived.Test.YtnobbklnnkpdfaaWz
import Derived.Test.YtnobbklnnkpdfaaPh
namespace Go.Proofs.Ytnobbklnnkpdfaa
open Go.RowKit

theorem find_split {α : Type} (P : α → Bool) : ∀ (p q : List α) (x : α), (∀ y ∈ p, P y = false) → P x = true → (p ++ x :: q).find? P = some x := by
  intro p
  induction p with
  | nil => intro q x _ h; simp [h]
  | cons y p ih =>
    intro q x h1 h2
    rw [List.cons_append, List.find?_cons_of_neg (by rw [h1 y (by simp)]; simp)]
    exact ih q x (fun z hz => h1 z (List.mem_cons_of_mem _ hz)) h2
theorem find_filter' {α : Type} (P Q : α → Bool) : ∀ l : List α, (l.filter P).find? Q = l.find? (fun x => P x && Q x) := by
  intro l
  induction l with
  | nil => rfl
  | cons x l ih =>
    cases h : P x with
    | false => rw [List.filter_cons_of_neg (by rw [h]; simp), ih, List.find?_cons_of_neg (by rw [h]; simp)]
    | true =>
      rw [List.filter_cons_of_pos h]
      cases h2 : Q x with
      | false => rw [List.find?_cons_of_neg (by rw [h2]; simp), ih, List.find?_cons_of_neg (by rw [h2]; simp)]
      | true => rw [List.find?_cons_of_pos h2, List.find?_cons_of_pos (by rw [h, h2]; rfl)]
theorem find_map' {α β : Type} (f : α → β) (Q : β → Bool) : ∀ l : List α, (l.map f).find? Q = (l.find? (fun x => Q (f x))).map f := by
  intro l
  induction l with
  | nil => rfl
  | cons x l ih =>
    rw [List.map_cons]
    cases h : Q (f x) with
    | false => rw [List.find?_cons_of_neg (by rw [h]; simp), List.find?_cons_of_neg (by rw [h]; simp), ih]
    | true => rw [List.find?_cons_of_pos h, List.find?_cons_of_pos (by rw [h])]; rfl
/-- Is the row a path from a to b as strong as the width? -/
def refB (T : Nat → Int) (c a b k : Nat) (p : List Nat) : Bool := hlB a b k p && decide (stL T p = wT c T c (5 * a + b))
theorem path_first {T : Nat → Int} {c a b : Nat} (ha : a < c) (hb : b < c) (hab : a ≠ b) (s : Nat) :
    (someL (List.range c) (s + 2)).find? (refB T c a b (s + 2)) = ((ordL (othL c a b) s []).find? (pthB T c a b)).map (pthL a b) := by
  have e1 : (someL (List.range c) (s + 2)).filter (hlB a b (s + 2)) = (ordL (othL c a b) s []).map (pthL a b) := by
    rw [← ordL_some]
    refine (List.filter_congr (fun p hp => ?_)).trans (ordL_between ha hb hab s)
    rw [ordL_some] at hp
    obtain ⟨h1, h2, -⟩ := mem_some.1 hp
    have e0 : p.head? = some (p.getD 0 0) := by
      cases p with
      | nil => simp at h1
      | cons x p => rfl
    have e2 : p.getLast? = some (p.getD (s + 2 - 1) 0) := by
      rw [List.getLast?_eq_getElem?, h1]
      have hlt : s + 2 - 1 < p.length := by omega
      rw [List.getD, List.getElem?_eq_getElem hlt]
      rfl
    unfold hlB endB
    rw [e0, e2]
    simp
  show (someL (List.range c) (s + 2)).find? (fun p => hlB a b (s + 2) p && decide (stL T p = wT c T c (5 * a + b))) = _
  rw [← find_filter' (hlB a b (s + 2)) (fun p => decide (stL T p = wT c T c (5 * a + b))), e1, find_map']
  rfl
/-- What the reference's Path finds: the first row of the first length. -/
theorem path_same {T : Nat → Int} {c a b s s' : Nat} (ha : a < c) (hb : b < c) (hab : a ≠ b) {p q p' q' : List (List Nat)} {x x' : List Nat}
    (h1 : ∀ t, t < s → ∀ m ∈ ordL (othL c a b) t [], pthB T c a b m = false) (h2 : ordL (othL c a b) s [] = p ++ x :: q) (h3 : ∀ y ∈ p, pthB T c a b y = false) (h4 : pthB T c a b x = true)
    (k1 : ∀ t, t < s' → ∀ m ∈ someL (List.range c) (t + 2), refB T c a b (t + 2) m = false) (k2 : someL (List.range c) (s' + 2) = p' ++ x' :: q') (k3 : ∀ y ∈ p', refB T c a b (s' + 2) y = false) (k4 : refB T c a b (s' + 2) x' = true) : s' = s ∧ x' = pthL a b x := by
  have f1 : (ordL (othL c a b) s []).find? (pthB T c a b) = some x := by rw [h2]; exact find_split _ p q x h3 h4
  have f2 : (someL (List.range c) (s' + 2)).find? (refB T c a b (s' + 2)) = some x' := by rw [k2]; exact find_split _ p' q' x' k3 k4
  have es : s' = s := by
    rcases Nat.lt_trichotomy s' s with hl | hl | hl
    · rw [path_first ha hb hab, List.find?_eq_none.2 (fun m hm => by rw [h1 s' hl m hm]; simp)] at f2
      cases f2
    · exact hl
    · have := path_first (T := T) ha hb hab s
      rw [f1, List.find?_eq_none.2 (fun m hm => by rw [k1 s hl m hm]; simp)] at this
      cases this
  subst es
  rw [path_first ha hb hab, f1] at f2
  injection f2 with f2
  exact ⟨rfl, f2.symm⟩
end Go.Proofs.Ytnobbklnnkpdfaa
