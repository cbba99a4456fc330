/- The width of two candidates is the greatest strength of a path between them (theory). -/
import Derived.Test.YtnobbklnnkpdfaaSw
import Derived.Test.YtnobbklnnkpdfaaOn
namespace Go.Proofs.Ytnobbklnnkpdfaa
open Go.RowKit

/-- The strength of a path: the least margin of one of it over the next; 99 where there is none. -/
def stL (T : Nat → Int) : List Nat → Int
  | [] => 99
  | x :: r => match r with
    | [] => 99
    | y :: _ => min (T (5 * x + y)) (stL T r)
theorem stL_one (T : Nat → Int) (x : Nat) : stL T [x] = 99 := rfl
theorem stL_two (T : Nat → Int) (x y : Nat) (r : List Nat) : stL T (x :: y :: r) = min (T (5 * x + y)) (stL T (y :: r)) := rfl
theorem stL_le (T : Nat → Int) : ∀ p, stL T p ≤ 99 := by
  intro p
  induction p with
  | nil => exact Int.le_refl _
  | cons x r ih =>
    cases r with
    | nil => exact Int.le_refl _
    | cons y r => rw [stL_two]; omega
/-- Two paths in a row. -/
theorem stL_app (T : Nat → Int) (t : Nat) (q : List Nat) : ∀ p : List Nat, stL T (p ++ t :: q) = min (stL T (p ++ [t])) (stL T (t :: q)) := by
  intro p
  induction p with
  | nil => have := stL_le T (t :: q); simp only [List.nil_append, stL_one]; omega
  | cons x p ih =>
    cases p with
    | nil =>
      simp only [List.cons_append, List.nil_append, stL_two, stL_one] at ih ⊢
      have := stL_le T (t :: q)
      omega
    | cons y p =>
      simp only [List.cons_append, stL_two] at ih ⊢
      rw [ih]
      omega
theorem wT_ge {T : Nat → Int} {c : Nat} (hc : c ≤ 5) (h0 : ∀ a, a < c → T (5 * a + a) = 0) : ∀ k, k ≤ c → ∀ x y, x < c → y < c → T (5 * x + y) ≤ wT c T k (5 * x + y) := by
  intro k
  induction k with
  | zero => intro _ x y _ _; exact Int.le_refl _
  | succ k ih =>
    intro hk x y hx hy
    have h1 := ih (by omega) x y hx hy
    have h2 := (wT_cls hc h0 k (by omega)).dia k (by omega)
    show _ ≤ wA k c (wT c T k) c (5 * x + y)
    rw [wA_at hc h2 (by omega) hx hy]
    unfold phW
    split <;> omega
/-- A path from a to b, of more than one, below c. -/
structure WayL (c a b : Nat) (p : List Nat) : Prop where
  fst : p.head? = some a
  lst : p.getLast? = some b
  two : 2 ≤ p.length
  rng : ∀ x ∈ p, x < c
/-- No path without repetition is stronger than the width. -/
theorem stL_width {T : Nat → Int} {c : Nat} (hc : c ≤ 5) (h0 : ∀ a, a < c → T (5 * a + a) = 0) {b : Nat} : ∀ (p : List Nat) (a : Nat), WayL c a b p → p.Nodup → stL T p ≤ wT c T c (5 * a + b) := by
  have hcls := wT_cls hc h0 c (Nat.le_refl _)
  intro p
  induction p with
  | nil => intro a h _; have := h.two; simp at this
  | cons x r ih =>
    intro a h hn
    have e : x = a := by have := h.fst; simpa using this
    subst e
    cases r with
    | nil => have := h.two; simp at this
    | cons y r =>
      have hx := h.rng x (by simp)
      have hy := h.rng y (by simp)
      have hxy : x ≠ y := fun e => by rw [e] at hn; simp at hn
      have hge := wT_ge hc h0 c (Nat.le_refl _) x y hx hy
      rw [stL_two]
      cases r with
      | nil =>
        have e : y = b := by have := h.lst; simpa using this
        subst e
        omega
      | cons z r =>
        have hb : b ∈ y :: z :: r := by
          have := h.lst
          rw [List.getLast?_cons_cons] at this
          exact List.mem_of_getLast? this
        have hxb : x ≠ b := fun e => by rw [← e] at hb; exact (List.nodup_cons.1 hn).1 hb
        have h1 := ih y ⟨rfl, by have := h.lst; rwa [List.getLast?_cons_cons] at this, by simp, fun q hq => h.rng q (List.mem_cons_of_mem _ hq)⟩ (List.nodup_cons.1 hn).2
        have h2 := hcls.cls x b y hx (h.rng b (List.mem_cons_of_mem _ hb)) hy hxb
        omega
/-- Some path is as strong as the width. -/
theorem wT_way {T : Nat → Int} {c : Nat} (hc : c ≤ 5) (h0 : ∀ a, a < c → T (5 * a + a) = 0) (h99 : ∀ a b, a < c → b < c → T (5 * a + b) ≤ 99) : ∀ k, k ≤ c → ∀ a b, a < c → b < c → ∃ p, WayL c a b p ∧ wT c T k (5 * a + b) ≤ stL T p := by
  intro k
  induction k with
  | zero =>
    intro _ a b ha hb
    refine ⟨[a, b], ⟨rfl, rfl, by simp, fun x hx => by simp at hx; rcases hx with rfl | rfl <;> assumption⟩, ?_⟩
    rw [stL_two, stL_one]
    have := h99 a b ha hb
    show T (5 * a + b) ≤ _
    omega
  | succ k ih =>
    intro hk a b ha hb
    have h2 := (wT_cls hc h0 k (by omega)).dia k (by omega)
    show ∃ p, WayL c a b p ∧ wA k c (wT c T k) c (5 * a + b) ≤ stL T p
    rw [wA_at hc h2 (by omega) ha hb]
    obtain ⟨p0, w0, s0⟩ := ih (by omega) a b ha hb
    unfold phW
    split
    · exact ⟨p0, w0, s0⟩
    · obtain ⟨p1, w1, s1⟩ := ih (by omega) a k ha (by omega)
      obtain ⟨p2, w2, s2⟩ := ih (by omega) k b (by omega) hb
      by_cases hm : min (wT c T k (5 * a + k)) (wT c T k (5 * k + b)) ≤ wT c T k (5 * a + b)
      · exact ⟨p0, w0, by omega⟩
      · obtain ⟨q1, rfl⟩ : ∃ q, p1 = q ++ [k] := by
          obtain ⟨q, hq⟩ := List.getLast?_eq_some_iff.1 w1.lst
          exact ⟨q, hq⟩
        obtain ⟨q2, rfl⟩ : ∃ q, p2 = k :: q := by
          obtain ⟨q, hq⟩ := List.head?_eq_some_iff.1 w2.fst
          exact ⟨q, hq⟩
        have t1 := w1.two
        have t2 := w2.two
        refine ⟨q1 ++ k :: q2, ⟨?_, ?_, by simp at t1 t2 ⊢; omega, fun x hx => ?_⟩, ?_⟩
        · have := w1.fst
          cases q1 with
          | nil => simp at t1
          | cons z q1 => simpa using this
        · have := w2.lst
          rw [List.getLast?_append, this]
          rfl
        · rcases List.mem_append.1 hx with h | h
          · exact w1.rng x (by simp [h])
          · exact w2.rng x h
        · rw [stL_app]
          omega
theorem split_rep {α : Type} [DecidableEq α] : ∀ (p : List α), ¬ p.Nodup → ∃ x u m r, p = u ++ x :: m ++ x :: r := by
  intro p
  induction p with
  | nil => intro h; exact absurd List.nodup_nil h
  | cons y p ih =>
    intro h
    by_cases hy : y ∈ p
    · obtain ⟨m, r, e⟩ := List.append_of_mem hy
      exact ⟨y, [], m, r, by rw [e]; simp⟩
    · obtain ⟨x, u, m, r, e⟩ := ih (fun hn => h (List.nodup_cons.2 ⟨hy, hn⟩))
      exact ⟨x, y :: u, m, r, by rw [e]; simp⟩
/-- Cut the circles out. -/
theorem way_cut {T : Nat → Int} {c a b : Nat} (hab : a ≠ b) : ∀ (l : Nat) (p : List Nat), p.length ≤ l → WayL c a b p → ∃ p', WayL c a b p' ∧ p'.Nodup ∧ stL T p ≤ stL T p' := by
  intro l
  induction l with
  | zero => intro p hp h; have := h.two; omega
  | succ l ih =>
    intro p hp h
    by_cases hn : p.Nodup
    · exact ⟨p, h, hn, Int.le_refl _⟩
    · obtain ⟨x, u, m, r, rfl⟩ := split_rep p hn
      have hs : stL T (u ++ x :: m ++ x :: r) ≤ stL T (u ++ x :: r) := by
        have e1 : u ++ x :: m ++ x :: r = u ++ x :: (m ++ x :: r) := by simp
        rw [e1, stL_app T x (m ++ x :: r) u, stL_app T x r u]
        have e2 := stL_app T x r (x :: m)
        simp only [List.cons_append] at e2
        rw [e2]
        omega
      have hh : (u ++ x :: r).head? = some a := by
        have := h.fst
        cases u with
        | nil => simpa using this
        | cons z u => simpa using this
      have hl : (u ++ x :: r).getLast? = some b := by
        have := h.lst
        rw [List.getLast?_append] at this ⊢
        cases e : (x :: r).getLast? with
        | none => simp at e
        | some y => rw [e] at this; simpa using this
      have h2 : 2 ≤ (u ++ x :: r).length := by
        rcases Nat.lt_or_ge (u ++ x :: r).length 2 with h3 | h3
        · cases u with
          | cons z u => simp at h3; omega
          | nil =>
            cases r with
            | cons z r => simp at h3; omega
            | nil =>
              simp at hh hl
              exact absurd (hh.symm.trans hl) hab
        · exact h3
      obtain ⟨p', w', n', s'⟩ := ih (u ++ x :: r) (by simp at hp ⊢; omega) ⟨hh, hl, h2, fun y hy => h.rng y (by simp at hy ⊢; rcases hy with h | h | h <;> simp [h])⟩
      exact ⟨p', w', n', by omega⟩
theorem nodupW_len : ∀ (n : Nat) (l : List Nat), l.Nodup → (∀ x, x ∈ l → x < n) → l.length ≤ n := by
  intro n
  induction n with
  | zero =>
    intro l _ h
    cases l with
    | nil => simp
    | cons x l => exact absurd (h x (by simp)) (by omega)
  | succ n ih =>
    intro l hl h
    have h1 := ih (l.erase n) (hl.erase n) (fun x hx => by
      have h2 := (hl.mem_erase_iff).1 hx
      have := h x h2.2
      omega)
    have h2 : l.length ≤ (l.erase n).length + 1 := by
      by_cases hm : n ∈ l
      · rw [List.length_erase_of_mem hm]; omega
      · rw [List.erase_of_not_mem hm]; omega
    omega

/-- The width is reached by a path without repetition. -/
theorem width_path {T : Nat → Int} {c : Nat} (hc : c ≤ 5) (h0 : ∀ a, a < c → T (5 * a + a) = 0) (h99 : ∀ a b, a < c → b < c → T (5 * a + b) ≤ 99) {a b : Nat} (ha : a < c) (hb : b < c) (hab : a ≠ b) :
    ∃ p, WayL c a b p ∧ p.Nodup ∧ p.length ≤ c ∧ stL T p = wT c T c (5 * a + b) := by
  obtain ⟨p, h1, h2⟩ := wT_way hc h0 h99 c (Nat.le_refl _) a b ha hb
  obtain ⟨p', g1, g2, g3⟩ := way_cut (T := T) hab p.length p (Nat.le_refl _) h1
  have := stL_width hc h0 p' a g1 g2
  refine ⟨p', g1, g2, ?_, by omega⟩
  exact nodupW_len c p' g2 g1.rng
end Go.Proofs.Ytnobbklnnkpdfaa
