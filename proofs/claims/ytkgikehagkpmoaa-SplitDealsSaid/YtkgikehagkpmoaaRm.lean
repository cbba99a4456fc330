import Derived.Test.YtkgikehagkpmoaaCy5
namespace Go.Proofs.Ytkgikehagkpmoaa
open Go.RowKit

/-- A list with one more number, in order. -/
def nxL (n : Nat) (l : List Nat) : List (List Nat) := ((List.range n).filter fun x => !l.contains x).map fun x => l ++ [x]
/-- The lists of k different numbers below n, in order. -/
def smL (n : Nat) : Nat → List (List Nat)
  | 0 => [[]]
  | k + 1 => (smL n k).flatMap (nxL n)
/-- Those that go on from P by f more. -/
def extL (n : Nat) : Nat → List Nat → List (List Nat)
  | 0, P => [P]
  | f + 1, P => ((List.range n).filter fun x => !P.contains x).flatMap fun x => extL n f (P ++ [x])
theorem extL_snoc (n : Nat) : ∀ (f : Nat) (P : List Nat), extL n (f + 1) P = (extL n f P).flatMap (nxL n) := by
  intro f
  induction f with
  | zero =>
    intro P
    show ((List.range n).filter fun x => !P.contains x).flatMap (fun x => [P ++ [x]]) = [P].flatMap (nxL n)
    unfold nxL
    simp only [List.flatMap_cons, List.flatMap_nil, List.append_nil]
    induction ((List.range n).filter fun x => !P.contains x) with
    | nil => rfl
    | cons a l ih => simp only [List.flatMap_cons, List.map_cons, ih, List.singleton_append]
  | succ f ih =>
    intro P
    have e1 : extL n (f + 1 + 1) P = ((List.range n).filter fun x => !P.contains x).flatMap (fun x => extL n (f + 1) (P ++ [x])) := rfl
    have e2 : extL n (f + 1) P = ((List.range n).filter fun x => !P.contains x).flatMap (fun x => extL n f (P ++ [x])) := rfl
    rw [e1, e2, List.flatMap_assoc]
    congr 1
    funext x
    exact ih (P ++ [x])
theorem smL_ext (n k : Nat) : smL n k = extL n k [] := by
  induction k with
  | zero => rfl
  | succ k ih =>
    rw [extL_snoc, ← ih]
    rfl
theorem extL_pre {n : Nat} : ∀ (f : Nat) (P l : List Nat), l ∈ extL n f P → ∃ R, l = P ++ R := by
  intro f
  induction f with
  | zero =>
    intro P l h
    simp only [extL, List.mem_singleton] at h
    exact ⟨[], by simp [h]⟩
  | succ f ih =>
    intro P l h
    simp only [extL, List.mem_flatMap] at h
    obtain ⟨x, -, h⟩ := h
    obtain ⟨R, rfl⟩ := ih _ _ h
    exact ⟨x :: R, by simp⟩
/-- A list is a cycle of envy. -/
def cyT (env : Nat → Nat → Bool) (l : List Nat) : Bool := allB (fun a => env (l.getD a 0) (l.getD ((a + 1) % l.length) 0)) l.length
theorem fso_find {p : List Nat → Bool} {c : Nat → Bool} {st : Nat → Option (List Nat)} {F : Nat → List (List Nat)} : ∀ n, (∀ x, x < n → c x = true → st x = none) → (∀ x, x < n → c x = false → st x = (F x).find? p) →
    fso st n = (((List.range n).filter fun x => !c x).flatMap F).find? p := by
  intro n
  induction n with
  | zero => intro _ _; rfl
  | succ n ih =>
    intro h1 h2
    have e := ih (fun x hx => h1 x (by omega)) (fun x hx => h2 x (by omega))
    rw [List.range_succ, List.filter_append, List.flatMap_append, List.find?_append, ← e]
    have e2 : fso st (n + 1) = match fso st n with | some a => some a | none => st n := rfl
    rw [e2]
    cases hc : c n with
    | true =>
      rw [h1 n (by omega) hc]
      simp only [List.filter_cons, hc, Bool.not_true, List.filter_nil]
      cases fso st n <;> simp
    | false =>
      rw [h2 n (by omega) hc]
      simp only [List.filter_cons, hc, Bool.not_false, List.filter_nil]
      cases fso st n <;> simp
theorem clF_find {env : Nat → Nat → Bool} {n : Nat} : ∀ (f : Nat) (P : List Nat), 0 < P.length + f → (∀ k, k + 1 < P.length → env (P.getD k 0) (P.getD (k + 1) 0) = true) → clF env n f P = (extL n f P).find? (cyT env) := by
  intro f
  induction f with
  | zero =>
    intro P hp hs
    have hc : cyT env P = env (P.getLastD 0) (P.headD 0) := by
      rw [getLastD_eq, headD_eq]
      cases he : env (P.getD (P.length - 1) 0) (P.getD 0 0) with
      | true =>
        refine allB_t fun a ha => ?_
        rcases Nat.lt_or_ge (a + 1) P.length with hl | hl
        · show env (P.getD a 0) (P.getD ((a + 1) % P.length) 0) = true
          rw [Nat.mod_eq_of_lt hl]
          exact hs a hl
        · show env (P.getD a 0) (P.getD ((a + 1) % P.length) 0) = true
          have e : a + 1 = P.length := by omega
          rw [e, Nat.mod_self, show a = P.length - 1 by omega]
          exact he
      | false =>
        refine allB_f (g := P.length - 1) (by omega) ?_
        show env (P.getD (P.length - 1) 0) (P.getD ((P.length - 1 + 1) % P.length) 0) = false
        rw [show P.length - 1 + 1 = P.length by omega, Nat.mod_self]
        exact he
    simp only [clF, extL, List.find?_cons, List.find?_nil, hc]
    cases env (P.getLastD 0) (P.headD 0) <;> simp
  | succ f ih =>
    intro P hp hs
    show fso (fun x => if P.contains x then none else if P ≠ [] ∧ env (P.getLastD 0) x = false then none else clF env n f (P ++ [x])) n = (((List.range n).filter fun x => !P.contains x).flatMap fun x => extL n f (P ++ [x])).find? (cyT env)
    refine fso_find (c := fun x => P.contains x) n (fun x _ hc => ?_) (fun x _ hc => ?_)
    · try simp only at hc
      rw [if_pos hc]
    · try simp only at hc
      rw [if_neg (by rw [hc]; simp)]
      by_cases c2 : P ≠ [] ∧ env (P.getLastD 0) x = false
      · rw [if_pos c2]
        symm
        rw [List.find?_eq_none]
        intro l hl ht
        obtain ⟨R, rfl⟩ := extL_pre _ _ _ hl
        have hl0 : 0 < P.length := List.length_pos_iff.2 c2.1
        have h1 := (allB_iff.1 ht) (P.length - 1) (by simp; omega)
        have hlen : (P ++ [x] ++ R).length = P.length + 1 + R.length := by simp; omega
        rw [hlen, Nat.mod_eq_of_lt (by omega), show P.length - 1 + 1 = P.length by omega] at h1
        have e1 : (P ++ [x] ++ R).getD (P.length - 1) 0 = P.getLastD 0 := by
          rw [getLastD_eq]
          simp [List.getD_eq_getElem?_getD, List.getElem?_append_left (show P.length - 1 < P.length by omega)]
        have e2 : (P ++ [x] ++ R).getD P.length 0 = x := by simp [List.getD_eq_getElem?_getD]
        rw [e1, e2, c2.2] at h1
        cases h1
      · rw [if_neg c2]
        refine ih (P ++ [x]) (by simp; omega) (fun k hk => ?_)
        simp only [List.length_append, List.length_singleton] at hk
        rcases Nat.lt_or_ge (k + 1) P.length with hl | hl
        · have := hs k hl
          simpa [List.getD_eq_getElem?_getD, List.getElem?_append_left hl, List.getElem?_append_left (show k < P.length by omega)] using this
        · have hk1 : k + 1 = P.length := by omega
          have hne : P ≠ [] := by rintro rfl; simp at hk1
          have : env (P.getLastD 0) x = true := by
            cases hx : env (P.getLastD 0) x with
            | true => rfl
            | false => exact absurd ⟨hne, hx⟩ c2
          rw [getLastD_eq] at this
          rw [show P.length - 1 = k by omega] at this
          simpa [List.getD_eq_getElem?_getD, List.getElem?_append_left (show k < P.length by omega), hk1] using this
theorem shC_find (env : Nat → Nat → Bool) (n : Nat) : shC env n = fso (fun l => (smL n (l + 2)).find? (cyT env)) (n - 1) := by
  unfold shC
  congr 1
  funext l
  rw [smL_ext]
  exact clF_find (l + 2) [] (by simp) (fun k hk => by simp at hk)
theorem nxL_len (n : Nat) (l : List Nat) : (nxL n l).length ≤ n := by
  unfold nxL
  rw [List.length_map]
  have := List.length_filter_le (fun x => !l.contains x) (List.range n)
  simpa using this
theorem flat_len {n : Nat} (L : List (List Nat)) : (L.flatMap (nxL n)).length ≤ L.length * n := by
  induction L with
  | nil => simp
  | cons a L ih =>
    rw [List.flatMap_cons, List.length_append, List.length_cons, Nat.add_mul, Nat.one_mul]
    have := nxL_len n a
    omega
theorem smL_len {n : Nat} (hn : n ≤ 4) : ∀ k, k ≤ 4 → (smL n k).length ≤ 256 ∧ (k ≤ 3 → (smL n k).length ≤ 64) := by
  have key : ∀ k, (smL n k).length ≤ 4 ^ k := by
    intro k
    induction k with
    | zero => simp [smL]
    | succ k ih =>
      have h1 := flat_len (n := n) (smL n k)
      have h2 : (smL n k).length * n ≤ 4 ^ k * 4 := Nat.mul_le_mul ih hn
      have h3 : (4 : Nat) ^ (k + 1) = 4 ^ k * 4 := Nat.pow_succ _ _
      have h4 : smL n (k + 1) = (smL n k).flatMap (nxL n) := rfl
      rw [h4, h3]
      omega
  intro k hk
  have h1 := key k
  have h2 : (4 : Nat) ^ k ≤ 4 ^ 4 := Nat.pow_le_pow_right (by omega) hk
  refine ⟨by omega, fun h => ?_⟩
  have h3 : (4 : Nat) ^ k ≤ 4 ^ 3 := Nat.pow_le_pow_right (by omega) h
  omega
theorem smL_mem {n : Nat} : ∀ (k : Nat) (l : List Nat), l ∈ smL n k → l.length = k ∧ ∀ x, x ∈ l → x < n := by
  intro k
  induction k with
  | zero =>
    intro l h
    simp only [smL, List.mem_singleton] at h
    subst h
    exact ⟨rfl, (fun x hx => by cases hx)⟩
  | succ k ih =>
    intro l h
    simp only [smL, nxL, List.mem_flatMap, List.mem_map, List.mem_filter, List.mem_range] at h
    obtain ⟨a, ha, x, ⟨hx, -⟩, rfl⟩ := h
    obtain ⟨h1, h2⟩ := ih a ha
    refine ⟨by simp [h1], fun y hy => ?_⟩
    rcases List.mem_append.1 hy with h | h
    · exact h2 y h
    · simp at h; omega
/-- What has been given when x of a cycle have got theirs. -/
def resX (C : List Nat) (D : Nat → Int) : Nat → Nat → Int
  | 0 => D
  | x + 1 => fun h => if D h = fL C ((x + 1) % C.length) then fL C x else resX C D x h
theorem resX_all {env : Nat → Nat → Bool} {n : Nat} {C : List Nat} (h : Cyc env n C) (D : Nat → Int) (g : Nat) : resX C D C.length g = resF C D g := by
  have two := h.two
  have key : ∀ x, x ≤ C.length → (resX C D x g = resF C D g ∧ ∃ a, a < x ∧ D g = fL C ((a + 1) % C.length)) ∨ (resX C D x g = D g ∧ ∀ a, a < x → D g ≠ fL C ((a + 1) % C.length)) := by
    intro x
    induction x with
    | zero => exact fun _ => .inr ⟨rfl, fun a ha => absurd ha (by omega)⟩
    | succ x ih =>
      intro hx
      have e0 : resX C D (x + 1) g = if D g = fL C ((x + 1) % C.length) then fL C x else resX C D x g := rfl
      by_cases e : D g = fL C ((x + 1) % C.length)
      · refine .inl ⟨?_, x, by omega, e⟩
        rw [e0, if_pos e]
        unfold resF
        rw [e, h.prev_in (Nat.mod_lt _ (by omega))]
        congr 1
        unfold prv
        rcases Nat.lt_or_ge (x + 1) C.length with hl | hl
        · rw [Nat.mod_eq_of_lt hl, if_neg (by omega)]; omega
        · rw [show x + 1 = C.length by omega, Nat.mod_self, if_pos rfl]; omega
      · rw [e0, if_neg e]
        rcases ih (by omega) with ⟨h1, a, ha, h2⟩ | ⟨h1, h2⟩
        · exact .inl ⟨h1, a, by omega, h2⟩
        · refine .inr ⟨h1, fun a ha => ?_⟩
          rcases Nat.lt_or_ge a x with hl | hl
          · exact h2 a hl
          · obtain rfl : a = x := by omega
            exact e
  rcases key C.length (Nat.le_refl _) with ⟨h1, -⟩ | ⟨h1, h2⟩
  · exact h1
  · rw [h1]
    unfold resF
    rcases prev_cases C (D g) with ⟨a, ha, e⟩ | ⟨e, -⟩
    · exfalso
      rcases Nat.eq_zero_or_pos a with h0 | h0
      · refine h2 (C.length - 1) (by omega) ?_
        rw [show C.length - 1 + 1 = C.length by omega, Nat.mod_self, e, h0]
      · refine h2 (a - 1) (by omega) ?_
        rw [show a - 1 + 1 = a by omega, Nat.mod_eq_of_lt ha, e]
    · exact e.symm
end Go.Proofs.Ytkgikehagkpmoaa
