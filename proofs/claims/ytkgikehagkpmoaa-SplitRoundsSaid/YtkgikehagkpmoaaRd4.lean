import Derived.Test.YtkgikehagkpmoaaRd3
import Derived.Test.YtkgikehagkpmoaaParts
namespace Go.Proofs.Ytkgikehagkpmoaa

theorem wTo_cons (f D : Nat → Int) (q : Int) (k : Nat) : wTo f D q (k + 1) = (if D 0 = q then f 0 else 0) + wTo (fun j => f (j + 1)) (fun j => D (j + 1)) q k := by
  induction k with
  | zero => simp [wTo]
  | succ k ih =>
    rw [wTo, ih]
    simp only [wTo]
    by_cases e : D (k + 1) = q
    · rw [if_pos e, if_pos e]; omega
    · rw [if_neg e, if_neg e]
theorem wTo_nn3 {f : Nat → Int} {K : Nat} (h : ∀ g, g < K → 0 ≤ f g) (D : Nat → Int) (j : Int) : 0 ≤ wTo f D j K := by
  induction K with
  | zero => exact Int.le_refl _
  | succ K ih =>
    have h1 := ih (fun g hg => h g (by omega))
    have h2 := h K (by omega)
    simp only [wTo]
    split <;> omega
/-- Some division reaches the share. -/
theorem shR_div (n : Nat) : ∀ (k : Nat) (f S : Nat → Int) (used : Nat), (∀ j, j < k → 0 ≤ f j) → (∀ p, p ≤ n → 0 ≤ S p) → ∃ D, Own (n + 1) k D ∧ ∀ q : Nat, q ≤ n → shR n k f S used ≤ S q + wTo f D (q : Int) k := by
  intro k
  induction k with
  | zero =>
    intro f S used hf hS
    exact ⟨fun _ => 0, fun g hg => absurd hg (by omega), fun q hq => by
      have := lowT_le S n q hq
      simp only [shR, wTo]
      omega⟩
  | succ k ih =>
    intro f S used hf hS
    simp only [shR]
    rcases mxf_some 0 (fun p => shR n k (fun j => f (j + 1)) (addAt S p (f 0)) (max used (p + 1))) (min (used + 1) (n + 1)) with e | ⟨p, hp, e⟩
    · rw [e]
      refine ⟨fun _ => 0, fun g _ => ⟨by show (0 : Int) ≤ 0; omega, by show (0 : Int) < ((n + 1 : Nat) : Int); omega⟩, fun q hq => ?_⟩
      have h1 := hS q hq
      have h2 := wTo_nn3 hf (fun _ => 0) (q : Int)
      omega
    · rw [e]
      have h0 := hf 0 (by omega)
      obtain ⟨D, hD, hq⟩ := ih (fun j => f (j + 1)) (addAt S p (f 0)) (max used (p + 1)) (fun j hj => hf (j + 1) (by omega)) (fun q hq => by
        have := hS q hq
        simp only [addAt]
        split <;> omega)
      refine ⟨fun g => if g = 0 then (p : Int) else D (g - 1), fun g hg => ?_, fun q hqn => ?_⟩
      · rcases g with _ | g
        · simp only [if_true]; omega
        · have := hD g (by omega)
          simpa using this
      · have h1 := hq q hqn
        rw [wTo_cons]
        simp only [if_true]
        have e2 : (fun j : Nat => if j + 1 = 0 then (p : Int) else D (j + 1 - 1)) = D := by
          funext j
          simp
        rw [e2]
        simp only [addAt] at h1
        by_cases c : q = p
        · rw [if_pos c] at h1
          rw [if_pos (by omega)]
          omega
        · rw [if_neg c] at h1
          rw [if_neg (by omega)]
          omega
theorem shareN_div {m k : Nat} {f : Nat → Int} (hb : Bd m f 100) : ∃ D, Own (k + 1) m D ∧ ∀ q : Nat, q ≤ k → shareN m f k ≤ wTo f D (q : Int) m := by
  obtain ⟨D, h1, h2⟩ := shR_div k m f (fun _ => 0) 0 (fun j hj => (hb j hj).1) (fun _ _ => Int.le_refl _)
  exact ⟨D, h1, fun q hq => by have := h2 q hq; unfold shareN; omega⟩

/-- What is left when a good of each of the first J bundles is taken. -/
def Fr (f : Nat → Int) (hh : Nat → Option Nat) : Nat → Nat → Int
  | 0 => f
  | J + 1 => match hh J with
    | none => Fr f hh J
    | some h => upd (Fr f hh J) h 0
def noS (hh : Nat → Option Nat) : Nat → Int
  | 0 => 0
  | J + 1 => noS hh J + if (hh J).isSome then 1 else 0
theorem Fr_nn {f : Nat → Int} {hh : Nat → Option Nat} {m : Nat} (hf : ∀ g, g < m → 0 ≤ f g) (J : Nat) : ∀ g, g < m → 0 ≤ Fr f hh J g := by
  induction J with
  | zero => exact hf
  | succ J ih =>
    intro g hg
    simp only [Fr]
    cases hh J with
    | none => exact ih g hg
    | some h =>
      have := ih g hg
      simp only [upd]
      split <;> omega
theorem Fr_down {f : Nat → Int} {hh : Nat → Option Nat} {m : Nat} (hf : ∀ g, g < m → 0 ≤ f g) {J K : Nat} (h : J ≤ K) : ∀ g, g < m → Fr f hh K g ≤ Fr f hh J g := by
  induction K with
  | zero =>
    obtain rfl : J = 0 := by omega
    exact fun _ _ => Int.le_refl _
  | succ K ih =>
    rcases Nat.lt_or_ge K J with hl | hl
    · obtain rfl : J = K + 1 := by omega
      exact fun _ _ => Int.le_refl _
    · intro g hg
      have h1 := ih hl g hg
      have h2 := Fr_nn (hh := hh) hf K g hg
      simp only [Fr]
      cases hh K with
      | none => exact h1
      | some x =>
        simp only [upd]
        split <;> omega
theorem wTo_mono {f f' D : Nat → Int} {j : Int} {K : Nat} (h : ∀ g, g < K → f g ≤ f' g) : wTo f D j K ≤ wTo f' D j K := by
  induction K with
  | zero => exact Int.le_refl _
  | succ K ih =>
    have h1 := ih (fun g hg => h g (by omega))
    have h2 := h K (by omega)
    simp only [wTo]
    split <;> omega
theorem wTo_zero {f D : Nat → Int} {j : Int} {x : Nat} (hx : D x = j) : ∀ K, wTo (upd f x 0) D j K = wTo f D j K - (if x < K then f x else 0) := by
  intro K
  induction K with
  | zero => simp [wTo]
  | succ K ih =>
    simp only [wTo, ih]
    by_cases e : K = x
    · subst e
      rw [if_pos hx, if_pos hx, upd_at, if_neg (by omega), if_pos (by omega)]
      omega
    · rw [upd_ne _ _ e]
      have hc : (x < K + 1) = (x < K) := propext ⟨fun h => by omega, fun h => by omega⟩
      simp only [hc]
      split <;> split <;> omega
theorem wTo_away {f D : Nat → Int} {j : Int} {x : Nat} (hx : D x ≠ j) (K : Nat) : wTo (upd f x 0) D j K = wTo f D j K := by
  induction K with
  | zero => rfl
  | succ K ih =>
    simp only [wTo, ih]
    by_cases e : K = x
    · subst e
      rw [if_neg hx, if_neg hx]
    · rw [upd_ne _ _ e]
/-- How many parts are worth less than s. -/
def poor (s : Int) (f E : Nat → Int) (m N : Nat) : Int := sumTo (fun q => if wTo f E (q : Int) m < s then 1 else 0) N
theorem poor_one {s : Int} {f E : Nat → Int} {m N x : Nat} : poor s (upd f x 0) E m N ≤ poor s f E m N + 1 := by
  unfold poor
  have h := sum_upd (fun q : Nat => if wTo f E (q : Int) m < s then (1 : Int) else 0) 1 N (E x)
  have h2 : sumTo (fun q : Nat => if wTo (upd f x 0) E (q : Int) m < s then (1 : Int) else 0) N ≤ sumTo (fun q : Nat => if E x = (q : Int) then (if wTo f E (q : Int) m < s then (1 : Int) else 0) + 1 else (if wTo f E (q : Int) m < s then (1 : Int) else 0)) N := sumTo_le fun q hq => by
    by_cases e : E x = (q : Int)
    · rw [if_pos e]
      split <;> split <;> omega
    · rw [if_neg e, wTo_away e]
      exact Int.le_refl _
  rw [h] at h2
  have h3 : (if 0 ≤ E x ∧ E x < N then (1 : Int) else 0) ≤ 1 := by split <;> omega
  omega
theorem poor_Fr {s : Int} {f E : Nat → Int} {hh : Nat → Option Nat} {m N : Nat} (h0 : poor s f E m N ≤ 0) (J : Nat) : poor s (Fr f hh J) E m N ≤ noS hh J := by
  induction J with
  | zero => exact h0
  | succ J ih =>
    simp only [Fr, noS]
    cases hh J with
    | none => simpa using ih
    | some x =>
      have := poor_one (s := s) (f := Fr f hh J) (E := E) (m := m) (N := N) (x := x)
      simp only [Option.isSome_some, if_true]
      omega
theorem noS_le {hh : Nat → Option Nat} {i : Nat} (hi : hh i = none) (J : Nat) : noS hh J ≤ (J : Int) - (if i < J then 1 else 0) := by
  induction J with
  | zero => simp [noS]
  | succ J ih =>
    simp only [noS]
    by_cases e : J = i
    · subst e
      have hz : (if (hh J).isSome = true then (1 : Int) else 0) = 0 := by rw [hi]; rfl
      rw [hz]
      split at ih <;> split <;> omega
    · have h1 : (if (hh J).isSome = true then (1 : Int) else 0) ≤ 1 := by split <;> omega
      generalize (if (hh J).isSome = true then (1 : Int) else 0) = z at *
      split at ih <;> split <;> omega
theorem sum_poor {s : Int} {P : Nat → Int} (N : Nat) (hP : ∀ q, q < N → 0 ≤ P q) : s * (N : Int) - s * sumTo (fun q => if P q < s then 1 else 0) N ≤ sumTo P N := by
  induction N with
  | zero => simp [sumTo]
  | succ N ih =>
    have h1 := ih (fun q hq => hP q (by omega))
    have h2 := hP N (by omega)
    simp only [sumTo]
    by_cases e : P N < s
    · rw [if_pos e, Int.mul_add, Int.mul_one, Int.natCast_add, Int.mul_add]
      simp only [Int.natCast_one, Int.mul_one]
      omega
    · rw [if_neg e, Int.natCast_add, Int.mul_add]
      simp only [Int.natCast_one, Int.mul_one, Int.add_zero]
      omega
theorem wTo_nn2 {f D : Nat → Int} {j : Int} {K : Nat} (h : ∀ g, g < K → 0 ≤ f g) : 0 ≤ wTo f D j K := by
  induction K with
  | zero => exact Int.le_refl _
  | succ K ih =>
    have h1 := ih (fun g hg => h g (by omega))
    have h2 := h K (by omega)
    simp only [wTo]
    split <;> omega

/-- Who is fair up to one has the share of twice as many people, less one. -/
theorem ef1_share {n m : Nat} {v : Nat → Nat → Int} {D : Nat → Int} (hb : BdM n m v 100) (h0 : 0 < n) (h4 : n ≤ 4) (hO : Own n m D) (hE : Ef1 n m v D) {i : Nat} (hi : i < n) : shareN m (v i) (2 * n - 2) ≤ wTo (v i) D (i : Int) m := by
  obtain ⟨s, hs⟩ : ∃ s, s = shareN m (v i) (2 * n - 2) := ⟨_, rfl⟩
  obtain ⟨x, hx⟩ : ∃ x, x = wTo (v i) D (i : Int) m := ⟨_, rfl⟩
  obtain ⟨E, hEo, hEs⟩ := shareN_div (k := 2 * n - 2) (hb i hi)
  have hnn : ∀ g, g < m → 0 ≤ v i g := fun g hg => (hb i hi g hg).1
  have hs0 : 0 ≤ s := by rw [hs]; exact shareN_nn (hb i hi)
  rw [← hs] at hEs
  rw [← hs, ← hx]
  -- which good is taken of each bundle
  have hch : ∀ j : Nat, ∃ o : Option Nat, (o = none ∧ (j < n → wTo (v i) D (j : Int) m ≤ x)) ∨ ∃ g, o = some g ∧ g < m ∧ D g = (j : Int) ∧ wTo (v i) D (j : Int) m - v i g ≤ x ∧ j ≠ i := fun j => by
    by_cases hj : j < n
    · by_cases hle : wTo (v i) D (j : Int) m ≤ x
      · exact ⟨none, .inl ⟨rfl, fun _ => hle⟩⟩
      · rcases hE i j hi hj with h1 | ⟨g, hg, hd, h1⟩
        · exact absurd (by rw [hx]; exact h1) hle
        · exact ⟨some g, .inr ⟨g, rfl, hg, hd, by rw [hx]; exact h1, fun e => hle (by rw [hx, e]; exact Int.le_refl _)⟩⟩
    · exact ⟨none, .inl ⟨rfl, fun h => absurd h hj⟩⟩
  obtain ⟨hh, hhh⟩ := Classical.axiomOfChoice hch
  have hi0 : hh i = none := by
    rcases hhh i with ⟨e, -⟩ | ⟨g, -, -, -, -, h⟩
    · exact e
    · exact absurd rfl h
  have hbun : ∀ j, j < n → wTo (Fr (v i) hh n) D (j : Int) m ≤ x := fun j hj => by
    rcases hhh j with ⟨e, h1⟩ | ⟨g, e, hg, hd, h1, -⟩
    · exact Int.le_trans (wTo_mono (Fr_down (hh := hh) hnn (Nat.zero_le n))) (h1 hj)
    · have a1 : wTo (Fr (v i) hh n) D (j : Int) m ≤ wTo (Fr (v i) hh (j + 1)) D (j : Int) m := wTo_mono (Fr_down hnn (by omega))
      have a2 : Fr (v i) hh (j + 1) = upd (Fr (v i) hh j) g 0 := by simp only [Fr, e]
      have a3 : wTo (upd (Fr (v i) hh j) g 0) D (j : Int) m ≤ wTo (upd (v i) g 0) D (j : Int) m := wTo_mono fun y hy => by
        have := Fr_down (f := v i) (hh := hh) hnn (Nat.zero_le j) y hy
        simp only [Fr] at this
        simp only [upd]
        split <;> omega
      have a4 := wTo_zero (f := v i) hd m
      rw [if_pos hg] at a4
      rw [a2] at a1
      omega
  have hsum1 := sum_parts (f := Fr (v i) hh n) hO m (Nat.le_refl _)
  have hsum2 := sum_parts (f := Fr (v i) hh n) hEo m (Nat.le_refl _)
  have hle1 : sumTo (fun j => wTo (Fr (v i) hh n) D (j : Int) m) n ≤ sumTo (fun _ => x) n := sumTo_le hbun
  rw [sumTo_const, hsum1] at hle1
  have hp0 : poor s (v i) E m (2 * n - 2 + 1) ≤ 0 := by
    unfold poor
    have : sumTo (fun q : Nat => if wTo (v i) E (q : Int) m < s then (1 : Int) else 0) (2 * n - 2 + 1) = sumTo (fun _ => 0) (2 * n - 2 + 1) := sumTo_eq fun q hq => if_neg (by have := hEs q (by omega); omega)
    rw [this, sumTo_const]
    omega
  have hp1 := poor_Fr (hh := hh) hp0 n
  have hp2 := noS_le hi0 n
  rw [if_pos hi] at hp2
  have hle2 := sum_poor (s := s) (P := fun q : Nat => wTo (Fr (v i) hh n) E (q : Int) m) (2 * n - 2 + 1) (fun q _ => wTo_nn2 (Fr_nn hnn n))
  rw [hsum2] at hle2
  have hle3 : s * poor s (Fr (v i) hh n) E m (2 * n - 2 + 1) ≤ s * ((n : Int) - 1) := Int.mul_le_mul_of_nonneg_left (by omega) hs0
  unfold poor at hle3
  generalize sumTo (fun q : Nat => if wTo (Fr (v i) hh n) E (q : Int) m < s then (1 : Int) else 0) (2 * n - 2 + 1) = pp at *
  have e1 : ((2 * n - 2 + 1 : Nat) : Int) = 2 * (n : Int) - 1 := by omega
  rw [e1, Int.mul_sub, Int.mul_one, Int.mul_left_comm] at hle2
  rw [Int.mul_sub, Int.mul_one] at hle3
  rw [Int.mul_comm] at hle1
  rcases Int.lt_or_le x s with h | h
  · have h2 : (x + 1) * (n : Int) ≤ s * (n : Int) := Int.mul_le_mul_of_nonneg_right (by omega) (by omega)
    rw [Int.add_mul, Int.one_mul] at h2
    omega
  · exact h
end Go.Proofs.Ytkgikehagkpmoaa
