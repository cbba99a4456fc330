/- The reference's strength and width (theory). -/
import Derived.Test.YtnobbklnnkpdfaaWy
import Derived.Test.YtnobbklnnkpdfaaSm
namespace Go.Proofs.Ytnobbklnnkpdfaa
open Go.RowKit

theorem stL_take (T : Nat → Int) (p : List Nat) {i : Nat} (h1 : 1 ≤ i) (hi : i < p.length) : stL T (p.take (i + 1)) = min (stL T (p.take i)) (T (5 * p.getD (i - 1) 0 + p.getD i 0)) := by
  obtain ⟨m, rfl⟩ : ∃ m, i = m + 1 := ⟨i - 1, by omega⟩
  have e1 : p.take (m + 1) = p.take m ++ [p.getD m 0] := by
    rw [List.take_add_one]; simp [List.getD, show m < p.length by omega]
  have e2 : p.take (m + 1 + 1) = p.take m ++ p.getD m 0 :: [p.getD (m + 1) 0] := by
    rw [List.take_add_one, e1]; simp [List.getD, hi]
  have h9 := stL_le T (p.take m ++ [p.getD m 0])
  rw [e2, e1, stL_app, stL_two, stL_one]
  simp only [Nat.add_sub_cancel]
  omega
theorem stL_take1 (T : Nat → Int) (p : List Nat) : stL T (p.take 1) = 99 := by
  cases p with
  | nil => rfl
  | cons x p => rfl
/-- Does the path go from a to b? -/
def hlB (a b k : Nat) (p : List Nat) : Bool := decide (p.getD 0 0 = a) && decide (p.getD (k - 1) 0 = b)
def mxL (T : Nat → Int) (a b k : Nat) : List (List Nat) → Int → Int
  | [], m => m
  | p :: l, m => mxL T a b k l (if hlB a b k p then max m (stL T p) else m)
theorem mxL_snoc (T : Nat → Int) (a b k : Nat) (p : List Nat) : ∀ (l : List (List Nat)) (m : Int), mxL T a b k (l ++ [p]) m = if hlB a b k p then max (mxL T a b k l m) (stL T p) else mxL T a b k l m := by
  intro l
  induction l with
  | nil => intro m; rfl
  | cons q l ih => intro m; exact ih _
theorem mxL_ge (T : Nat → Int) (a b k : Nat) : ∀ (l : List (List Nat)) (m : Int), m ≤ mxL T a b k l m ∧ ∀ p ∈ l, hlB a b k p = true → stL T p ≤ mxL T a b k l m := by
  intro l
  induction l with
  | nil => intro m; exact ⟨Int.le_refl _, by simp⟩
  | cons q l ih =>
    intro m
    obtain ⟨h1, h2⟩ := ih (if hlB a b k q then max m (stL T q) else m)
    have h3 : m ≤ (if hlB a b k q then max m (stL T q) else m) := by split <;> omega
    refine ⟨Int.le_trans h3 h1, fun p hp hh => ?_⟩
    rcases List.mem_cons.1 hp with rfl | hp
    · rw [if_pos hh] at h1 h3
      show _ ≤ mxL T a b k l (if hlB a b k p then max m (stL T p) else m)
      rw [if_pos hh]
      omega
    · exact h2 p hp hh
theorem mxL_le (T : Nat → Int) (a b k : Nat) {B : Int} : ∀ (l : List (List Nat)) (m : Int), m ≤ B → (∀ p ∈ l, hlB a b k p = true → stL T p ≤ B) → mxL T a b k l m ≤ B := by
  intro l
  induction l with
  | nil => intro m h _; exact h
  | cons q l ih =>
    intro m h hl
    refine ih _ ?_ (fun p hp => hl p (List.mem_cons_of_mem _ hp))
    split
    · rename_i hq
      have := hl q (by simp) hq
      omega
    · exact h
/-- The width over the paths of 2 to s + 1 candidates. -/
def wdL (T : Nat → Int) (c a b : Nat) : Nat → Int
  | 0 => -99
  | s + 1 => mxL T a b (s + 2) (someL (List.range c) (s + 2)) (wdL T c a b s)
theorem mem_some {c k : Nat} {p : List Nat} : p ∈ someL (List.range c) k ↔ p.length = k ∧ (∀ x ∈ p, x < c) ∧ p.Nodup := by
  rw [← ordL_some, mem_ordL]
  constructor
  · rintro ⟨suf, e, h1, h2, h3⟩
    have e' : p = suf := e
    subst e'
    exact ⟨h1, fun x hx => List.mem_range.1 (h2 x hx).1, h3⟩
  · rintro ⟨h1, h2, h3⟩
    exact ⟨p, by simp, h1, fun x hx => ⟨List.mem_range.2 (h2 x hx), by simp⟩, h3⟩
theorem way_hl {c a b k : Nat} {p : List Nat} (hk : 2 ≤ k) (hp : p.length = k) (hr : ∀ x ∈ p, x < c) : hlB a b k p = true ↔ WayL c a b p := by
  have e0 : p.head? = some (p.getD 0 0) := by
    cases p with
    | nil => simp at hp; omega
    | cons x p => rfl
  have e1 : p.getLast? = some (p.getD (k - 1) 0) := by
    rw [List.getLast?_eq_getElem?, hp]
    simp [List.getD, show k - 1 < p.length by omega]
  unfold hlB
  simp only [Bool.and_eq_true, decide_eq_true_eq]
  constructor
  · rintro ⟨h1, h2⟩
    exact ⟨by rw [e0, h1], by rw [e1, h2], by omega, hr⟩
  · intro h
    have h1 := h.fst
    have h2 := h.lst
    rw [e0] at h1
    rw [e1] at h2
    injection h1 with h1
    injection h2 with h2
    exact ⟨h1, h2⟩
theorem wdL_mono (T : Nat → Int) (c a b : Nat) (s : Nat) : wdL T c a b s ≤ wdL T c a b (s + 1) := (mxL_ge T a b (s + 2) _ _).1
theorem wdL_mono' (T : Nat → Int) (c a b : Nat) {s : Nat} : ∀ t, s ≤ t → wdL T c a b s ≤ wdL T c a b t := by
  intro t
  induction t with
  | zero => intro h; rw [show s = 0 by omega]; exact Int.le_refl _
  | succ t ih =>
    intro h
    by_cases e : s = t + 1
    · rw [e]; exact Int.le_refl _
    · exact Int.le_trans (ih (by omega)) (wdL_mono T c a b t)
/-- The reference's width is the width. -/
theorem wdL_width {T : Nat → Int} {c : Nat} (hc : c ≤ 5) (h0 : ∀ a, a < c → T (5 * a + a) = 0) (hT : ∀ a b, a < c → b < c → -99 ≤ T (5 * a + b) ∧ T (5 * a + b) ≤ 99) {a b : Nat} (ha : a < c) (hb : b < c) (hab : a ≠ b) :
    wdL T c a b (c - 1) = wT c T c (5 * a + b) := by
  have hge := wT_ge hc h0 c (Nat.le_refl _) a b ha hb
  have hle : ∀ s, wdL T c a b s ≤ wT c T c (5 * a + b) := by
    intro s
    induction s with
    | zero => have := (hT a b ha hb).1; show (-99 : Int) ≤ _; omega
    | succ s ih =>
      refine mxL_le T a b (s + 2) _ _ ih (fun p hp hh => ?_)
      obtain ⟨h1, h2, h3⟩ := mem_some.1 hp
      exact stL_width hc h0 p a ((way_hl (by omega) h1 h2).1 hh) h3
  obtain ⟨p, h1, h2, h3, h4⟩ := width_path hc h0 (fun a b ha hb => (hT a b ha hb).2) ha hb hab
  have h5 := h1.two
  have h6 : stL T p ≤ wdL T c a b (p.length - 2 + 1) := (mxL_ge T a b (p.length - 2 + 2) _ _).2 p (mem_some.2 ⟨by omega, h1.rng, h2⟩) ((way_hl (by omega) (by omega) h1.rng).2 h1)
  have h7 := wdL_mono' T c a b (s := p.length - 2 + 1) (c - 1) (by omega)
  have h8 := hle (c - 1)
  omega
end Go.Proofs.Ytnobbklnnkpdfaa
