import Derived.Test.YtkgikehagkpmoaaCy2
import Derived.Test.YtkgikehagkpmoaaKM
namespace Go.Proofs.Ytkgikehagkpmoaa
open Go.RowKit

theorem nodup_len : ∀ (n : Nat) (l : List Nat), l.Nodup → (∀ x, x ∈ l → x < n) → l.length ≤ n := by
  intro n
  induction n with
  | zero =>
    intro l _ h
    cases l with
    | nil => simp
    | cons x l => exact absurd (h x (by simp)) (by omega)
  | succ n ih =>
    intro l hl h
    have h1 := ih (l.erase n) (hl.erase n) (fun x hx => by
      have h2 := (hl.mem_erase_iff).1 hx
      have := h x h2.2
      omega)
    have h2 : l.length ≤ (l.erase n).length + 1 := by
      by_cases hm : n ∈ l
      · rw [List.length_erase_of_mem hm]; omega
      · rw [List.erase_of_not_mem hm]; omega
    omega

/-- If everybody is envied there is a cycle of envy. -/
theorem cyc_exists {env : Nat → Nat → Bool} {n : Nat} (hirr : ∀ i, env i i = false) (h : ∀ j, j < n → ∃ i, i < n ∧ env i j = true) :
    ∀ (f : Nat) (P : List Nat), n + 1 - P.length = f → Chain env n P → P ≠ [] → ∃ C, Chain env n C ∧ 2 ≤ C.length ∧ C.length ≤ n ∧ env (C.getLastD 0) (C.headD 0) = true := by
  intro f
  induction f with
  | zero =>
    intro P hf hP _
    have := nodup_len n P hP.nd hP.lt
    omega
  | succ f ih =>
    intro P hf hP hne
    obtain ⟨x, l, rfl⟩ : ∃ x l, P = x :: l := by
      cases P with
      | nil => exact absurd rfl hne
      | cons x l => exact ⟨x, l, rfl⟩
    obtain ⟨i, hi, he⟩ := h x (hP.lt x (by simp))
    by_cases hm : i ∈ x :: l
    · obtain ⟨t, ht, e⟩ := List.mem_iff_getElem.1 hm
      have hlen : ((x :: l).take (t + 1)).length = t + 1 := by rw [List.length_take]; omega
      have hget : ∀ k, k < t + 1 → ((x :: l).take (t + 1)).getD k 0 = (x :: l).getD k 0 := fun k hk => by
        rw [List.getD_eq_getElem?_getD, List.getD_eq_getElem?_getD, List.getElem?_take_of_lt hk]
      refine ⟨(x :: l).take (t + 1), ⟨fun y hy => hP.lt y (List.mem_of_mem_take hy), hP.nd.sublist (List.take_sublist _ _), fun k hk => ?_⟩, ?_, ?_, ?_⟩
      · rw [hlen] at hk
        rw [hget k (by omega), hget (k + 1) hk]
        exact hP.step k (by omega)
      · rw [hlen]
        rcases Nat.eq_zero_or_pos t with h0 | h0
        · subst h0
          simp only [List.getElem_cons_zero] at e
          rw [e, hirr] at he
          cases he
        · omega
      · rw [hlen]
        have := nodup_len n _ hP.nd hP.lt
        omega
      · rw [getLastD_eq, hlen, headD_eq, hget 0 (by omega), Nat.add_sub_cancel, hget t (by omega)]
        rw [List.getD_eq_getElem?_getD, List.getElem?_eq_getElem ht, Option.getD_some, e]
        exact he
    · refine ih (i :: x :: l) (by simp at hf ⊢; omega) ⟨fun y hy => ?_, List.nodup_cons.2 ⟨hm, hP.nd⟩, fun k hk => ?_⟩ (by simp)
      · rcases List.mem_cons.1 hy with rfl | hy
        · exact hi
        · exact hP.lt y hy
      · rcases k with _ | k
        · exact he
        · have := hP.step k (by simpa using hk)
          simpa using this

def fL (C : List Nat) : Nat → Int := fun k => ((C.getD k 0 : Nat) : Int)
/-- A cycle of envy. -/
structure Cyc (env : Nat → Nat → Bool) (n : Nat) (C : List Nat) : Prop where
  two : 2 ≤ C.length
  lt : ∀ a, a < C.length → C.getD a 0 < n
  inj : ∀ a b, a < C.length → b < C.length → C.getD a 0 = C.getD b 0 → a = b
  step : ∀ a, a + 1 < C.length → env (C.getD a 0) (C.getD (a + 1) 0) = true
  close : env (C.getD (C.length - 1) 0) (C.getD 0 0) = true
theorem getD_mem {C : List Nat} {a : Nat} (h : a < C.length) : C.getD a 0 ∈ C := by
  rw [List.getD_eq_getElem?_getD, List.getElem?_eq_getElem h, Option.getD_some]
  exact List.getElem_mem h
theorem Cyc.of {env : Nat → Nat → Bool} {n : Nat} {C : List Nat} (h : Chain env n C) (h2 : 2 ≤ C.length) (hc : env (C.getLastD 0) (C.headD 0) = true) : Cyc env n C := by
  refine ⟨h2, fun a ha => h.lt _ (getD_mem ha), fun a b ha hb e => ?_, h.step, by rw [← getLastD_eq, ← headD_eq]; exact hc⟩
  have hp := List.pairwise_iff_getElem.1 h.nd
  simp only [List.getD_eq_getElem?_getD, List.getElem?_eq_getElem ha, List.getElem?_eq_getElem hb, Option.getD_some] at e
  rcases Nat.lt_trichotomy a b with hl | hl | hl
  · exact absurd e (hp a b ha hb hl)
  · exact hl
  · exact absurd e.symm (hp b a hb ha hl)

def prv (L a : Nat) : Nat := if a = 0 then L - 1 else a - 1
theorem prv_mod {L a : Nat} (ha : a < L) : (a + L - 1) % L = prv L a := by
  unfold prv
  by_cases h : a = 0
  · rw [if_pos h, h, Nat.zero_add]
    exact Nat.mod_eq_of_lt (by omega)
  · rw [if_neg h, show a + L - 1 = (a - 1) + L by omega, Nat.add_mod_right]
    exact Nat.mod_eq_of_lt (by omega)
theorem prv_lt {L a : Nat} (ha : a < L) : prv L a < L := by unfold prv; split <;> omega
theorem prv_inj {L a b : Nat} (ha : a < L) (hb : b < L) (e : prv L a = prv L b) : a = b := by
  unfold prv at e
  split at e <;> split at e <;> omega

/-- Who gets what belongs to j. -/
def prevI (C : List Nat) (j : Int) : Int := if idxI (fL C) j C.length = -1 then j else fL C (prv C.length (idxI (fL C) j C.length).toNat)
def resF (C : List Nat) (D : Nat → Int) : Nat → Int := fun g => prevI C (D g)
section
variable {env : Nat → Nat → Bool} {n : Nat} {C : List Nat}
theorem Cyc.idx (h : Cyc env n C) {a : Nat} (ha : a < C.length) : idxI (fL C) (fL C a) C.length = (a : Int) := by
  rcases idxI_cases (fL C) (fL C a) C.length with ⟨-, h1⟩ | ⟨k, hk, e, h1, -⟩
  · exact absurd rfl (h1 a ha)
  · rw [e]
    have : C.getD k 0 = C.getD a 0 := by unfold fL at h1; omega
    rw [h.inj k a hk ha this]
theorem Cyc.prev_in (h : Cyc env n C) {a : Nat} (ha : a < C.length) : prevI C (fL C a) = fL C (prv C.length a) := by
  unfold prevI
  rw [h.idx ha, if_neg (by omega), Int.toNat_natCast]
theorem prev_cases (C : List Nat) (j : Int) : (∃ a, a < C.length ∧ j = fL C a) ∨ (prevI C j = j ∧ ∀ a, a < C.length → fL C a ≠ j) := by
  rcases idxI_cases (fL C) j C.length with ⟨e, h1⟩ | ⟨k, hk, e, h1, -⟩
  · exact .inr ⟨by unfold prevI; rw [if_pos e], h1⟩
  · exact .inl ⟨k, hk, h1.symm⟩
theorem Cyc.prev_inj (h : Cyc env n C) {i j : Int} (e : prevI C i = prevI C j) : i = j := by
  rcases prev_cases C i with ⟨a, ha, rfl⟩ | ⟨ei, hi⟩
  · rcases prev_cases C j with ⟨b, hb, rfl⟩ | ⟨ej, hj⟩
    · rw [h.prev_in ha, h.prev_in hb] at e
      have e' : C.getD (prv C.length a) 0 = C.getD (prv C.length b) 0 := by unfold fL at e; omega
      rw [prv_inj ha hb (h.inj _ _ (prv_lt ha) (prv_lt hb) e')]
    · rw [h.prev_in ha, ej] at e
      exact absurd e (hj _ (prv_lt ha))
  · rcases prev_cases C j with ⟨b, hb, rfl⟩ | ⟨ej, hj⟩
    · rw [h.prev_in hb, ei] at e
      exact absurd e.symm (hi _ (prv_lt hb))
    · rw [ei, ej] at e
      exact e
theorem Cyc.prev_rng (h : Cyc env n C) {j : Int} (h0 : -1 ≤ j) (h1 : j < n) : -1 ≤ prevI C j ∧ prevI C j < n ∧ (0 ≤ j → 0 ≤ prevI C j) ∧ (j = -1 → prevI C j = -1) := by
  rcases prev_cases C j with ⟨a, ha, rfl⟩ | ⟨e, -⟩
  · rw [h.prev_in ha]
    have := h.lt _ (prv_lt ha)
    unfold fL
    exact ⟨by omega, by omega, fun _ => by omega, fun e => by omega⟩
  · rw [e]
    exact ⟨h0, h1, fun h => h, fun h => h⟩
/-- Everybody gets what they had, or what they envied. -/
theorem Cyc.from_ (h : Cyc env n C) {i : Nat} (hi : i < n) : ∃ j : Nat, j < n ∧ prevI C (j : Int) = (i : Int) ∧ (j = i ∨ env i j = true) ∧ ((∃ a, a < C.length ∧ C.getD a 0 = i) → env i j = true) := by
  by_cases hx : ∃ a, a < C.length ∧ C.getD a 0 = i
  · obtain ⟨a, ha, rfl⟩ := hx
    have two := h.two
    rcases Nat.lt_or_ge (a + 1) C.length with hl | hl
    · have hs := h.step a hl
      refine ⟨C.getD (a + 1) 0, h.lt _ hl, ?_, .inr hs, fun _ => hs⟩
      have := h.prev_in hl
      unfold prv at this
      rw [if_neg (by omega), Nat.add_sub_cancel] at this
      exact this
    · obtain rfl : a = C.length - 1 := by omega
      refine ⟨C.getD 0 0, h.lt 0 (by omega), ?_, .inr h.close, fun _ => h.close⟩
      have := h.prev_in (show 0 < C.length by omega)
      unfold prv at this
      rw [if_pos rfl] at this
      exact this
  · refine ⟨i, hi, ?_, .inl rfl, fun hx' => absurd hx' hx⟩
    rcases prev_cases C (i : Int) with ⟨a, ha, e⟩ | ⟨e, -⟩
    · exact absurd ⟨a, ha, by unfold fL at e; omega⟩ hx
    · exact e
end
theorem wTo_res {env : Nat → Nat → Bool} {n : Nat} {C : List Nat} (h : Cyc env n C) (f D : Nat → Int) (j : Int) (k : Nat) : wTo f (resF C D) (prevI C j) k = wTo f D j k := by
  induction k with
  | zero => rfl
  | succ k ih =>
    simp only [wTo, ih]
    by_cases e : D k = j
    · rw [if_pos e, if_pos (by unfold resF; rw [e])]
    · have e3 : ¬ resF C D k = prevI C j := fun e2 => e (h.prev_inj e2)
      rw [if_neg e, if_neg e3]
end Go.Proofs.Ytkgikehagkpmoaa
