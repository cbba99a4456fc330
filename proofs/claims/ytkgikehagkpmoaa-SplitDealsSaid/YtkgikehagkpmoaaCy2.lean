import Derived.Test.YtkgikehagkpmoaaCy1
namespace Go.Proofs.Ytkgikehagkpmoaa
open Go.RowKit

/-- The first that p gives, of 0 .. n - 1. -/
def fso (p : Nat → Option (List Nat)) : Nat → Option (List Nat)
  | 0 => none
  | k + 1 => match fso p k with
    | some a => some a
    | none => p k
theorem fso_none {p : Nat → Option (List Nat)} {k : Nat} (h : ∀ j, j < k → p j = none) : fso p k = none := by
  induction k with
  | zero => rfl
  | succ k ih => simp [fso, ih (fun j hj => h j (by omega)), h k (by omega)]
theorem fso_some {p : Nat → Option (List Nat)} {k : Nat} {a : List Nat} (h : ∀ j, j < k → p j = none) (hk : p k = some a) : ∀ K, k < K → fso p K = some a := by
  intro K hK
  induction K with
  | zero => omega
  | succ K ih =>
    rcases Nat.lt_or_ge k K with hl | hl
    · simp [fso, ih hl]
    · obtain rfl : K = k := by omega
      simp [fso, fso_none h, hk]
theorem fso_cases (p : Nat → Option (List Nat)) (n : Nat) : (fso p n = none ∧ ∀ j, j < n → p j = none) ∨ ∃ k a, k < n ∧ p k = some a ∧ fso p n = some a := by
  induction n with
  | zero => exact .inl ⟨rfl, fun j hj => absurd hj (by omega)⟩
  | succ n ih =>
    rcases ih with ⟨e, h⟩ | ⟨k, a, hk, h1, h2⟩
    · cases hp : p n with
      | none => exact .inl ⟨by simp [fso, e, hp], fun j hj => by
          rcases Nat.lt_or_ge j n with hl | hl
          · exact h j hl
          · obtain rfl : j = n := by omega
            exact hp⟩
      | some a => exact .inr ⟨n, a, by omega, hp, by simp [fso, e, hp]⟩
    · exact .inr ⟨k, a, by omega, h1, by simp [fso, h2]⟩

/-- The first cycle that begins with P and has f more. -/
def clF (env : Nat → Nat → Bool) (n : Nat) : Nat → List Nat → Option (List Nat)
  | 0, P => if env (P.getLastD 0) (P.headD 0) then some P else none
  | f + 1, P => fso (fun x => if P.contains x then none else if P ≠ [] ∧ env (P.getLastD 0) x = false then none else clF env n f (P ++ [x])) n

/-- A chain: different people below n, each of whom envies the next. -/
structure Chain (env : Nat → Nat → Bool) (n : Nat) (P : List Nat) : Prop where
  lt : ∀ x, x ∈ P → x < n
  nd : P.Nodup
  step : ∀ k, k + 1 < P.length → env (P.getD k 0) (P.getD (k + 1) 0) = true
theorem getLastD_eq (P : List Nat) : P.getLastD 0 = P.getD (P.length - 1) 0 := by
  cases P with
  | nil => rfl
  | cons a l => simp [List.getLastD, List.getLast_eq_getElem, List.getD_eq_getElem?_getD]
theorem headD_eq (P : List Nat) : P.headD 0 = P.getD 0 0 := by cases P <;> rfl
theorem Chain.snoc {env : Nat → Nat → Bool} {n x : Nat} {P : List Nat} (h : Chain env n P) (hx : x < n) (hP : x ∉ P) (he : P ≠ [] → env (P.getLastD 0) x = true) : Chain env n (P ++ [x]) := by
  refine ⟨fun y hy => ?_, ?_, fun k hk => ?_⟩
  · rcases List.mem_append.1 hy with h1 | h1
    · exact h.lt y h1
    · simp at h1; omega
  · rw [List.nodup_append]
    exact ⟨h.nd, by simp, fun a ha b hb => by
      simp at hb
      subst hb
      exact fun e => hP (e ▸ ha)⟩
  · simp only [List.length_append, List.length_singleton] at hk
    rcases Nat.lt_or_ge (k + 1) P.length with hl | hl
    · have := h.step k hl
      simpa [List.getD_eq_getElem?_getD, List.getElem?_append_left hl, List.getElem?_append_left (show k < P.length by omega)] using this
    · have hk1 : k + 1 = P.length := by omega
      have hne : P ≠ [] := by rintro rfl; simp at hk1
      have := he hne
      rw [getLastD_eq] at this
      rw [show P.length - 1 = k by omega] at this
      simpa [List.getD_eq_getElem?_getD, List.getElem?_append_left (show k < P.length by omega), hk1] using this
/-- What is found is a cycle. -/
theorem clF_some {env : Nat → Nat → Bool} {n : Nat} : ∀ (f : Nat) (P C : List Nat), Chain env n P → clF env n f P = some C → Chain env n C ∧ C.length = P.length + f ∧ env (C.getLastD 0) (C.headD 0) = true := by
  intro f
  induction f with
  | zero =>
    intro P C h e
    simp only [clF] at e
    by_cases he : env (P.getLastD 0) (P.headD 0) = true
    · rw [if_pos he] at e
      injection e with e
      subst e
      exact ⟨h, rfl, he⟩
    · rw [if_neg he] at e
      cases e
  | succ f ih =>
    intro P C h e
    simp only [clF] at e
    rcases fso_cases (fun x => if P.contains x then none else if P ≠ [] ∧ env (P.getLastD 0) x = false then none else clF env n f (P ++ [x])) n with ⟨e1, -⟩ | ⟨k, a, hk, h1, h2⟩
    · rw [e1] at e; cases e
    · rw [h2] at e
      injection e with e
      subst e
      try simp only at h1
      by_cases c1 : P.contains k = true
      · rw [if_pos c1] at h1; cases h1
      · rw [if_neg c1] at h1
        by_cases c2 : P ≠ [] ∧ env (P.getLastD 0) k = false
        · rw [if_pos c2] at h1; cases h1
        · rw [if_neg c2] at h1
          obtain ⟨q1, q2, q3⟩ := ih _ _ (h.snoc hk (by simpa using c1) (fun hne => by
            cases hx : env (P.getLastD 0) k with
            | true => rfl
            | false => exact absurd ⟨hne, hx⟩ c2)) h1
          exact ⟨q1, by rw [q2, List.length_append, List.length_singleton]; omega, q3⟩
/-- What is not found is not there. -/
theorem clF_none {env : Nat → Nat → Bool} {n : Nat} : ∀ (f : Nat) (P Q : List Nat), clF env n f P = none → Q.length = f → Chain env n (P ++ Q) → env ((P ++ Q).getLastD 0) ((P ++ Q).headD 0) = true → False := by
  intro f
  induction f with
  | zero =>
    intro P Q e hQ hc he
    obtain rfl : Q = [] := List.eq_nil_of_length_eq_zero hQ
    rw [List.append_nil] at he
    simp only [clF] at e
    rw [if_pos he] at e
    cases e
  | succ f ih =>
    intro P Q e hQ hc he
    obtain ⟨x, Q', rfl⟩ : ∃ x Q', Q = x :: Q' := by
      cases Q with
      | nil => simp at hQ
      | cons x Q' => exact ⟨x, Q', rfl⟩
    have hx : x < n := hc.lt x (by simp)
    simp only [clF] at e
    rcases fso_cases (fun x => if P.contains x then none else if P ≠ [] ∧ env (P.getLastD 0) x = false then none else clF env n f (P ++ [x])) n with ⟨-, h⟩ | ⟨k, a, hk, h1, h2⟩
    · have h1 := h x hx
      try simp only at h1
      have hnd := hc.nd
      rw [List.nodup_append] at hnd
      have hxP : x ∉ P := fun hm => hnd.2.2 x hm x (by simp) rfl
      rw [if_neg (by simpa using hxP)] at h1
      have c2 : ¬ (P ≠ [] ∧ env (P.getLastD 0) x = false) := by
        rintro ⟨hne, hf⟩
        have hl : 0 < P.length := List.length_pos_iff.2 hne
        have hs := hc.step (P.length - 1) (by simp; omega)
        rw [show P.length - 1 + 1 = P.length by omega] at hs
        rw [getLastD_eq] at hf
        have e1 : (P ++ x :: Q').getD (P.length - 1) 0 = P.getD (P.length - 1) 0 := by
          simp [List.getD_eq_getElem?_getD, List.getElem?_append_left (show P.length - 1 < P.length by omega)]
        have e2 : (P ++ x :: Q').getD P.length 0 = x := by simp [List.getD_eq_getElem?_getD]
        rw [e1, e2] at hs
        rw [hs] at hf
        cases hf
      rw [if_neg c2] at h1
      have e3 : P ++ x :: Q' = (P ++ [x]) ++ Q' := by simp
      rw [e3] at hc he
      exact ih _ Q' h1 (by simpa using hQ) hc he
    · rw [h2] at e; cases e
end Go.Proofs.Ytkgikehagkpmoaa
