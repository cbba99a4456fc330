/- Widths: letting everyone in once is enough; being stronger goes on; the first one who is as strong as all others is in the best set. -/
import Derived.Test.YtnobbklnnkpdfaaWn
namespace Go.Proofs.Ytnobbklnnkpdfaa
open Go.RowKit

/-- What letting t in makes of the width from x to y. -/
def phW (t : Nat) (T : Nat → Int) (x y : Nat) : Int := if x = y then T (5 * x + y) else max (T (5 * x + y)) (min (T (5 * x + t)) (T (5 * t + y)))
theorem phW_row {t : Nat} {T : Nat → Int} (h0 : T (5 * t + t) = 0) (x : Nat) : phW t T x t = T (5 * x + t) := by
  unfold phW
  split
  · rfl
  · rw [h0]; omega
theorem phW_col {t : Nat} {T : Nat → Int} (h0 : T (5 * t + t) = 0) (y : Nat) : phW t T t y = T (5 * t + y) := by
  unfold phW
  split
  · rfl
  · rw [h0]; omega
def StgW (T : Nat → Int) (t c a k : Nat) (S : Nat → Int) : Prop := ∀ x y, x < c → y < c → S (5 * x + y) = if x < a ∨ (x = a ∧ y < k) then phW t T x y else T (5 * x + y)
theorem StgW.step {T : Nat → Int} {t c a k : Nat} {S : Nat → Int} (hc : c ≤ 5) (h0 : T (5 * t + t) = 0) (ht : t < c) (ha : a < c) (hk : k < c) (h : StgW T t c a k S) : StgW T t c a (k + 1) (stW S t a k) := by
  intro x y hx hy
  have e1 : S (5 * a + k) = T (5 * a + k) := by rw [h a k ha hk, if_neg (by omega)]
  have e2 : S (5 * a + t) = T (5 * a + t) := by
    rw [h a t ha ht]
    split
    · exact phW_row h0 a
    · rfl
  have e3 : S (5 * t + k) = T (5 * t + k) := by
    rw [h t k ht hk]
    split
    · exact phW_col h0 k
    · rfl
  unfold stW
  by_cases hak : a = k
  · rw [if_pos hak, h x y hx hy]
    by_cases hxy : x = a ∧ y = k
    · obtain ⟨rfl, rfl⟩ := hxy
      rw [if_neg (by omega), if_pos (by omega)]
      unfold phW
      rw [if_pos hak]
    · have : (x < a ∨ (x = a ∧ y < k)) ↔ (x < a ∨ (x = a ∧ y < k + 1)) := by omega
      simp only [this]
  · rw [if_neg hak, e1, e2, e3]
    unfold upd
    by_cases hxy : x = a ∧ y = k
    · obtain ⟨rfl, rfl⟩ := hxy
      rw [if_pos rfl, if_pos (by omega)]
      unfold phW
      rw [if_neg hak]
    · rw [if_neg (by omega), h x y hx hy]
      have : (x < a ∨ (x = a ∧ y < k)) ↔ (x < a ∨ (x = a ∧ y < k + 1)) := by omega
      simp only [this]
theorem wA_at {T : Nat → Int} {t c : Nat} (hc : c ≤ 5) (h0 : T (5 * t + t) = 0) (ht : t < c) {x y : Nat} (hx : x < c) (hy : y < c) : wA t c T c (5 * x + y) = phW t T x y := by
  have hB : ∀ a, a < c → ∀ S, StgW T t c a 0 S → ∀ k, k ≤ c → StgW T t c a k (wB t a S k) := by
    intro a ha S hS k
    induction k with
    | zero => exact fun _ => hS
    | succ k ih => exact fun hk => (ih (by omega)).step hc h0 ht ha (by omega)
  have hA : ∀ a, a ≤ c → StgW T t c a 0 (wA t c T a) := by
    intro a
    induction a with
    | zero =>
      intro _ x y hx hy
      rw [if_neg (by omega)]
      rfl
    | succ a ih =>
      intro ha x y hx hy
      have := hB a (by omega) _ (ih (by omega)) c (Nat.le_refl _) x y hx hy
      simp only [wA]
      rw [this]
      have e : (x < a ∨ (x = a ∧ y < c)) ↔ (x < a + 1 ∨ (x = a + 1 ∧ y < 0)) := by omega
      simp only [e]
  have := hA c (Nat.le_refl _) x y hx hy
  rw [if_pos (by omega)] at this
  exact this
/-- Diagonal 0; letting in any t below k brings nothing. -/
structure ClsW (S : Nat → Int) (c k : Nat) : Prop where
  dia : ∀ a, a < c → S (5 * a + a) = 0
  cls : ∀ a b t, a < c → b < c → t < k → a ≠ b → min (S (5 * a + t)) (S (5 * t + b)) ≤ S (5 * a + b)
theorem ClsW.step {S : Nat → Int} {c k : Nat} (hc : c ≤ 5) (hk : k < c) (h : ClsW S c k) : ClsW (wA k c S c) c (k + 1) := by
  have h0 := h.dia k hk
  have hw : ∀ x y, x < c → y < c → wA k c S c (5 * x + y) = phW k S x y := fun x y hx hy => wA_at hc h0 hk hx hy
  refine ⟨fun a ha => ?_, fun a b t ha hb ht hab => ?_⟩
  · rw [hw a a ha ha]
    unfold phW
    rw [if_pos rfl]
    exact h.dia a ha
  · rw [hw a t ha (by omega), hw t b (by omega) hb, hw a b ha hb]
    rcases Nat.lt_or_ge t k with htk | htk
    · have c1 := h.cls a b t ha hb htk hab
      unfold phW
      rw [if_neg hab]
      by_cases e1 : a = t
      · rw [if_pos e1]
        by_cases e2 : t = b
        · omega
        · rw [if_neg e2, e1]
          omega
      · rw [if_neg e1]
        by_cases e2 : t = b
        · rw [if_pos e2, ← e2]
          omega
        · rw [if_neg e2]
          by_cases e3 : a = k
          · subst e3
            have c3 := h.cls a b t hk hb htk (by omega)
            rw [h0]
            omega
          · by_cases e4 : b = k
            · subst e4
              have c2 := h.cls a b t ha hk htk hab
              rw [h0]
              omega
            · have c2 := h.cls a k t ha hk htk e3
              have c3 := h.cls k b t hk hb htk (fun e => e4 e.symm)
              omega
    · obtain rfl : t = k := by omega
      rw [phW_row h0, phW_col h0]
      unfold phW
      rw [if_neg hab]
      omega
theorem wT_cls {T : Nat → Int} {c : Nat} (hc : c ≤ 5) (h0 : ∀ a, a < c → T (5 * a + a) = 0) : ∀ k, k ≤ c → ClsW (wT c T k) c k := by
  intro k
  induction k with
  | zero => exact fun _ => ⟨h0, fun a b t _ _ ht => absurd ht (by omega)⟩
  | succ k ih => exact fun hk => (ih (by omega)).step hc (by omega)
/-- Stronger goes on. -/
theorem str_trans {W : Nat → Int} {c a b d : Nat} (h : ClsW W c c) (ha : a < c) (hb : b < c) (hd : d < c) (h1 : W (5 * b + a) < W (5 * a + b)) (h2 : W (5 * d + b) < W (5 * b + d)) : W (5 * d + a) < W (5 * a + d) := by
  by_cases e1 : a = b
  · subst e1; omega
  · by_cases e2 : b = d
    · subst e2; omega
    · by_cases e3 : a = d
      · subst e3; omega
      · have c1 := h.cls a d b ha hd hb e3
        have c2 := h.cls b a d hb ha hd (fun e => e1 e.symm)
        have c3 := h.cls d b a hd hb ha (fun e => e2 e.symm)
        omega
theorem strB_iff {W : Nat → Int} {c a : Nat} : strB W c a = true ↔ ∀ b, b < c → W (5 * b + a) ≤ W (5 * a + b) := by
  unfold strB
  rw [allB_iff]
  constructor
  · intro h b hb
    have := h b hb
    unfold strP at this
    simp at this
    exact this
  · intro h b hb
    have := h b hb
    unfold strP
    simp
    exact this
theorem str_exists {W : Nat → Int} {c : Nat} (hc : 1 ≤ c) (h : ClsW W c c) : ∃ k0, k0 < c ∧ strB W c k0 = true ∧ ∀ a, a < k0 → strB W c a = false := by
  have key : ∀ k, 1 ≤ k → k ≤ c → ∃ a, a < k ∧ ∀ b, b < k → W (5 * b + a) ≤ W (5 * a + b) := by
    intro k
    induction k with
    | zero => intro h; omega
    | succ k ih =>
      intro _ hk
      rcases Nat.eq_zero_or_pos k with rfl | hp
      · refine ⟨0, by omega, fun b hb => ?_⟩
        obtain rfl : b = 0 := by omega
        omega
      · obtain ⟨a, ha, hm⟩ := ih hp (by omega)
        by_cases hs : W (5 * a + k) < W (5 * k + a)
        · refine ⟨k, by omega, fun b hb => ?_⟩
          rcases Nat.lt_or_ge b k with hl | hl
          · apply Classical.byContradiction
            intro hn
            have h1 : W (5 * k + b) < W (5 * b + k) := by omega
            have h2 := str_trans h (show b < c by omega) (show k < c by omega) (show a < c by omega) h1 hs
            have h3 := hm b hl
            omega
          · obtain rfl : b = k := by omega
            omega
        · refine ⟨a, by omega, fun b hb => ?_⟩
          rcases Nat.lt_or_ge b k with hl | hl
          · exact hm b hl
          · obtain rfl : b = k := by omega
            omega
  obtain ⟨a, ha, hm⟩ := key c hc (Nat.le_refl _)
  have hfirst : ∀ n, (∃ k0, k0 < n ∧ strB W c k0 = true ∧ ∀ a, a < k0 → strB W c a = false) ∨ ∀ a, a < n → strB W c a = false := by
    intro n
    induction n with
    | zero => exact .inr (fun a h => absurd h (by omega))
    | succ n ih =>
      rcases ih with ⟨k0, h1, h2, h3⟩ | h
      · exact .inl ⟨k0, by omega, h2, h3⟩
      · cases hz : strB W c n with
        | true => exact .inl ⟨n, by omega, hz, h⟩
        | false =>
          refine .inr (fun a ha => ?_)
          rcases Nat.lt_or_ge a n with hl | hl
          · exact h a hl
          · obtain rfl : a = n := by omega
            exact hz
  rcases hfirst c with h1 | h1
  · exact h1
  · have := h1 a ha
    rw [strB_iff.2 hm] at this
    cases this
theorem bit_some : ∀ c, c < 6 → ∀ s, s < 2 ^ c → 1 ≤ s → anyB (bitN s) c = true := by decide +kernel
/-- From outside of a set that is ahead no width into it is 0 or more; widths are no less than margins. -/
theorem wT_out {T : Nat → Int} {c s : Nat} (hc : c ≤ 5) (h0 : ∀ a, a < c → T (5 * a + a) = 0) (hA : Anti T c) (hs : ahdB T c s = true) : ∀ k, k ≤ c → (∀ x y, x < c → y < c → bitN s x = false → bitN s y = true → wT c T k (5 * x + y) < 0) ∧ ∀ x y, x < c → y < c → T (5 * x + y) ≤ wT c T k (5 * x + y) := by
  intro k
  induction k with
  | zero =>
    intro _
    refine ⟨fun x y hx hy h1 h2 => ?_, fun x y _ _ => Int.le_refl _⟩
    have a1 := (ahdB_iff.1 hs) y x hy hx h2 h1
    have a2 := hA x y hx hy
    show T (5 * x + y) < 0
    omega
  | succ k ih =>
    intro hk
    obtain ⟨i1, i2⟩ := ih (by omega)
    have hd := (wT_cls hc h0 k (by omega)).dia k (by omega)
    have hw : ∀ x y, x < c → y < c → wT c T (k + 1) (5 * x + y) = phW k (wT c T k) x y := fun x y hx hy => wA_at hc hd (by omega) hx hy
    refine ⟨fun x y hx hy h1 h2 => ?_, fun x y hx hy => ?_⟩
    · rw [hw x y hx hy]
      have j1 := i1 x y hx hy h1 h2
      unfold phW
      split
      · exact j1
      · cases hb : bitN s k with
        | true =>
          have := i1 x k hx (by omega) h1 hb
          omega
        | false =>
          have := i1 k y (by omega) hy hb h2
          omega
    · rw [hw x y hx hy]
      have j1 := i2 x y hx hy
      unfold phW
      split
      · exact j1
      · omega
theorem str_best {T : Nat → Int} {c s k0 : Nat} (hc : c ≤ 5) (h0 : ∀ a, a < c → T (5 * a + a) = 0) (hA : Anti T c) (hs : IsBst T c s) (hk : k0 < c) (hst : strB (wT c T c) c k0 = true) : bitN s k0 = true := by
  cases hb : bitN s k0 with
  | true => rfl
  | false =>
    have hp : 0 < 2 ^ c := Nat.pow_pos (by omega)
    have hle := hs.le
    obtain ⟨b, hbc, hbb⟩ := anyB_iff.1 (bit_some c (by omega) s (by omega) hs.pos)
    obtain ⟨i1, i2⟩ := wT_out hc h0 hA hs.hd c (Nat.le_refl _)
    have j1 := i1 k0 b hk hbc hb hbb
    have j2 := i2 b k0 hbc hk
    have j3 := (ahdB_iff.1 hs.hd) b k0 hbc hk hbb hb
    have j4 := (strB_iff.1 hst) b hbc
    omega
end Go.Proofs.Ytnobbklnnkpdfaa
