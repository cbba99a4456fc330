import Derived.Test.YtghkcdldkbencabKM
namespace Go.Proofs.Ytghkcdldkbencab

theorem exists_max {α : Type} (Φ : α → Int) (B : Int) (h : ∀ a, Φ a ≤ B) (a0 : α) : ∃ a, ∀ b, Φ b ≤ Φ a := by
  have key : ∀ (k : Nat) (a : α), (B - Φ a).toNat ≤ k → ∃ a, ∀ b, Φ b ≤ Φ a := by
    intro k
    induction k with
    | zero =>
      intro a ha
      exact ⟨a, fun b => by have := h b; have := h a; omega⟩
    | succ k ih =>
      intro a ha
      by_cases c : ∃ b, Φ a < Φ b
      · obtain ⟨b, hb⟩ := c
        have h1 := h b
        have h2 := h a
        exact ih b (by omega)
      · exact ⟨a, fun b => by
          by_cases e : Φ a < Φ b
          · exact absurd ⟨b, e⟩ c
          · omega⟩
  exact key _ a0 (Nat.le_refl _)

theorem wTo_congr {f d d' : Nat → Int} {m : Nat} (h : ∀ g, g < m → d g = d' g) (j : Int) : wTo f d j m = wTo f d' j m := by
  induction m with
  | zero => rfl
  | succ k ih =>
    have h1 := ih (fun g hg => h g (by omega))
    simp only [wTo, h k (by omega), h1]

/-- How many of the first k goods j has. -/
def numTo (d : Nat → Int) (j : Int) : Nat → Int := wTo (fun _ => 1) d j
theorem numTo_bd (d : Nat → Int) (j : Int) (k : Nat) : 0 ≤ numTo d j k ∧ numTo d j k ≤ k := by
  unfold numTo
  induction k with
  | zero => simp [wTo]
  | succ k ih =>
    simp only [wTo]
    split <;> omega

/-- One good given to another person. -/
theorem wTo_move {f d : Nat → Int} {m g : Nat} {i j : Int} (hij : i ≠ j) (hg : g < m) (hd : d g = j) :
    wTo f (fun x => if x = g then i else d x) i m = wTo f d i m + f g ∧ wTo f (fun x => if x = g then i else d x) j m = wTo f d j m - f g := by
  have pre : ∀ k, k ≤ g → wTo f (fun x => if x = g then i else d x) i k = wTo f d i k ∧ wTo f (fun x => if x = g then i else d x) j k = wTo f d j k := fun k hk =>
    ⟨wTo_congr (fun x hx => by simp; omega) i, wTo_congr (fun x hx => by simp; omega) j⟩
  induction m with
  | zero => omega
  | succ k ih =>
    by_cases e : g = k
    · subst e
      obtain ⟨h1, h2⟩ := pre g (Nat.le_refl _)
      have a1 : wTo f (fun x => if x = g then i else d x) i (g + 1) = wTo f (fun x => if x = g then i else d x) i g + f g := wTo_yes (by simp)
      have a2 : wTo f (fun x => if x = g then i else d x) j (g + 1) = wTo f (fun x => if x = g then i else d x) j g := wTo_no (by simpa using hij)
      have a3 : wTo f d i (g + 1) = wTo f d i g := wTo_no (by rw [hd]; exact fun e => hij e.symm)
      have a4 : wTo f d j (g + 1) = wTo f d j g + f g := wTo_yes hd
      rw [a1, a2, a3, a4, h1, h2]
      omega
    · obtain ⟨h1, h2⟩ := ih (by omega)
      have hk : ¬ k = g := fun e' => e e'.symm
      simp only [wTo, hk, if_false, h1, h2]
      constructor <;> split <;> omega

/-- Person i, who has that part, envies no part j up to any good. -/
def EfxFor (m : Nat) (f d : Nat → Int) (i j : Int) : Prop := wTo f d i m < wTo f d j m → ∀ g, g < m → d g = j → wTo f d j m - f g ≤ wTo f d i m

/-- A cut of the goods in two of which neither part is envied for the other up to any good. -/
theorem cut_two (m : Nat) (f : Nat → Int) (u : Int) (hu : 0 ≤ u) (hb : Bd m f u) : ∃ d : Nat → Int, (∀ g, d g = 0 ∨ d g = 1) ∧ EfxFor m f d 0 1 ∧ EfxFor m f d 1 0 := by
  let D := { d : Nat → Int // ∀ g, d g = 0 ∨ d g = 1 }
  let Φ : D → Int := fun d => if wTo f d.1 0 m ≤ wTo f d.1 1 m then wTo f d.1 0 m * (m + 1) + numTo d.1 0 m else wTo f d.1 1 m * (m + 1) + numTo d.1 1 m
  have hle : ∀ d : D, Φ d ≤ (m * u) * (m + 1) + m := fun d => by
    obtain ⟨s1, s2⟩ := sumTo_bd hb m (Nat.le_refl _)
    have key : ∀ j, wTo f d.1 j m * (m + 1) + numTo d.1 j m ≤ (m * u) * (m + 1) + m := fun j => by
      obtain ⟨h1, h2⟩ := wTo_bd hb d.1 j m (Nat.le_refl _)
      obtain ⟨h3, h4⟩ := numTo_bd d.1 j m
      have : wTo f d.1 j m * (m + 1) ≤ (m * u) * (m + 1) := Int.mul_le_mul_of_nonneg_right (by omega) (by omega)
      omega
    show (if _ then _ else _) ≤ _
    split
    · exact key 0
    · exact key 1
  obtain ⟨⟨d, hd⟩, hmax⟩ := exists_max Φ _ hle ⟨fun _ => 0, fun _ => .inl rfl⟩
  have main : ∀ i j : Int, (i = 0 ∧ j = 1 ∨ i = 1 ∧ j = 0) → EfxFor m f d i j := by
    intro i j hij hlt g hg hgj
    by_cases c : wTo f d j m - f g ≤ wTo f d i m
    · exact c
    exfalso
    have hne : i ≠ j := by omega
    obtain ⟨m1, m2⟩ := wTo_move (f := f) (m := m) hne hg hgj
    obtain ⟨n1, n2⟩ := wTo_move (f := fun _ => 1) (m := m) hne hg hgj
    have hv : ∀ x, (fun x => if x = g then i else d x) x = 0 ∨ (fun x => if x = g then i else d x) x = 1 := fun x => by
      show (if x = g then i else d x) = 0 ∨ (if x = g then i else d x) = 1
      split
      · omega
      · exact hd x
    have hm := hmax ⟨fun x => if x = g then i else d x, hv⟩
    have hf := (hb g hg).1
    obtain ⟨q1, q2⟩ := numTo_bd d i m
    obtain ⟨q3, q4⟩ := numTo_bd (fun x => if x = g then i else d x) j m
    have n1' : numTo (fun x => if x = g then i else d x) i m = numTo d i m + 1 := n1
    have n2' : numTo (fun x => if x = g then i else d x) j m = numTo d j m - 1 := n2
    obtain ⟨q5, q6⟩ := numTo_bd (fun x => if x = g then i else d x) i m
    -- the value of d
    have e1 : Φ ⟨d, hd⟩ = wTo f d i m * (m + 1) + numTo d i m := by
      show (if wTo f d 0 m ≤ wTo f d 1 m then wTo f d 0 m * (m + 1) + numTo d 0 m else wTo f d 1 m * (m + 1) + numTo d 1 m) = _
      rcases hij with ⟨rfl, rfl⟩ | ⟨rfl, rfl⟩
      · rw [if_pos (by omega)]
      · rw [if_neg (by omega)]
    have e2 : ∃ k, (k = i ∨ k = j) ∧ Φ ⟨fun x => if x = g then i else d x, hv⟩ = wTo f (fun x => if x = g then i else d x) k m * (m + 1) + numTo (fun x => if x = g then i else d x) k m ∧
        (k = j → wTo f (fun x => if x = g then i else d x) j m ≤ wTo f (fun x => if x = g then i else d x) i m) := by
      show ∃ k, (k = i ∨ k = j) ∧ (if wTo f (fun x => if x = g then i else d x) 0 m ≤ wTo f (fun x => if x = g then i else d x) 1 m then wTo f (fun x => if x = g then i else d x) 0 m * (m + 1) + numTo (fun x => if x = g then i else d x) 0 m else wTo f (fun x => if x = g then i else d x) 1 m * (m + 1) + numTo (fun x => if x = g then i else d x) 1 m) = _ ∧ _
      by_cases hc : wTo f (fun x => if x = g then i else d x) 0 m ≤ wTo f (fun x => if x = g then i else d x) 1 m
      · rw [if_pos hc]
        refine ⟨0, by omega, rfl, fun h => ?_⟩
        rcases hij with ⟨rfl, rfl⟩ | ⟨rfl, rfl⟩
        · omega
        · exact hc
      · rw [if_neg hc]
        refine ⟨1, by omega, rfl, fun h => ?_⟩
        rcases hij with ⟨rfl, rfl⟩ | ⟨rfl, rfl⟩
        · omega
        · omega
    obtain ⟨k, hk, e2, hkj⟩ := e2
    rw [e1, e2] at hm
    have step : ∀ a b : Int, a + 1 ≤ b → a * (m + 1) + (m + 1) ≤ b * (m + 1) := fun a b hab => by
      have : (a + 1) * (m + 1) ≤ b * (m + 1) := Int.mul_le_mul_of_nonneg_right hab (by omega)
      rw [Int.add_mul, Int.one_mul] at this
      exact this
    rcases hk with rfl | rfl
    · by_cases c0 : f g = 0
      · rw [m1, n1', c0, Int.add_zero] at hm
        omega
      · have := step (wTo f d k m) (wTo f (fun x => if x = g then k else d x) k m) (by omega)
        omega
    · have := step (wTo f d i m) (wTo f (fun x => if x = g then i else d x) k m) (by omega)
      omega
  exact ⟨d, hd, main 0 1 (.inl ⟨rfl, rfl⟩), main 1 0 (.inr ⟨rfl, rfl⟩)⟩

theorem efx_congr {m : Nat} {f d d' : Nat → Int} {i j : Int} (h : ∀ g, g < m → d g = d' g) (he : EfxFor m f d i j) : EfxFor m f d' i j := by
  intro h1 g hg hgj
  rw [← wTo_congr h i, ← wTo_congr h j] at h1 ⊢
  exact he h1 g hg (by rw [h g hg]; exact hgj)
/-- The parts exchanged. -/
theorem wTo_swap {f d : Nat → Int} {m : Nat} (h : ∀ g, d g = 0 ∨ d g = 1) : wTo f (fun g => 1 - d g) 0 m = wTo f d 1 m ∧ wTo f (fun g => 1 - d g) 1 m = wTo f d 0 m := by
  induction m with
  | zero => exact ⟨rfl, rfl⟩
  | succ k ih =>
    obtain ⟨h1, h2⟩ := ih
    simp only [wTo, h1, h2]
    rcases h k with e | e <;> simp [e]

/-- For two people some division is fair up to any. -/
theorem efx_two (m : Nat) (v : Nat → Nat → Int) (u : Int) (hu : 0 ≤ u) (hb : BdM 2 m v u) : ∃ d : Nat → Int, (∀ g, d g = 0 ∨ d g = 1) ∧ EfxFor m (v 0) d 0 1 ∧ EfxFor m (v 1) d 1 0 := by
  obtain ⟨d, hd, h1, h2⟩ := cut_two m (v 0) u hu (hb 0 (by omega))
  by_cases c : wTo (v 1) d 0 m ≤ wTo (v 1) d 1 m
  · exact ⟨d, hd, h1, fun hlt => by omega⟩
  · refine ⟨fun g => 1 - d g, fun g => by rcases hd g with e | e <;> simp [e], ?_, ?_⟩
    · intro hlt g hg hgj
      obtain ⟨s1, s2⟩ := wTo_swap (f := v 0) (m := m) hd
      rw [s1, s2] at hlt ⊢
      exact h2 hlt g hg (by rcases hd g with e | e <;> simp [e] at hgj ⊢)
    · intro hlt
      obtain ⟨s1, s2⟩ := wTo_swap (f := v 1) (m := m) hd
      rw [s1, s2] at hlt
      omega

/-- Bit g of a number. -/
def bitF (s : Nat) (g : Nat) : Int := ((s / 2 ^ g % 2 : Nat) : Int)
theorem bits_exist (m : Nat) (d : Nat → Int) (h : ∀ g, d g = 0 ∨ d g = 1) : ∃ s, s < 2 ^ m ∧ ∀ g, g < m → bitF s g = d g := by
  induction m with
  | zero => exact ⟨0, by simp, fun g hg => absurd hg (by omega)⟩
  | succ k ih =>
    obtain ⟨s, hs, hg⟩ := ih
    rcases h k with e | e
    · refine ⟨s, by rw [Nat.pow_succ]; omega, fun g hgk => ?_⟩
      rcases Nat.lt_or_ge g k with hl | hl
      · exact hg g hl
      · obtain rfl : g = k := by omega
        rw [e]
        unfold bitF
        rw [Nat.div_eq_of_lt hs]
        rfl
    · refine ⟨s + 2 ^ k, by rw [Nat.pow_succ]; omega, fun g hgk => ?_⟩
      rcases Nat.lt_or_ge g k with hl | hl
      · rw [← hg g hl]
        unfold bitF
        obtain ⟨t, rfl⟩ : ∃ t, k = g + (t + 1) := ⟨k - g - 1, by omega⟩
        rw [Nat.pow_add, Nat.add_mul_div_left _ _ (Nat.pow_pos (by omega)), Nat.pow_succ, Nat.add_mul_mod_self_right]
      · obtain rfl : g = k := by omega
        rw [e]
        unfold bitF
        rw [Nat.add_div_right _ (Nat.pow_pos (by omega)), Nat.div_eq_of_lt hs]
        rfl

theorem fair_of_efx {m : Nat} {v : Nat → Nat → Int} {d : Nat → Int} (h0 : EfxFor m (v 0) d 0 1) (h1 : EfxFor m (v 1) d 1 0) : fairAll 2 m v d 2 = true := by
  rw [fair_lt3 (by decide) (by decide)]
  have key : ∀ (i : Nat) (j : Nat), EfxFor m (v i) d i j → badP m v d i 2 j = false := by
    intro i j h
    simp only [badP, Bool.and_eq_false_iff, Bool.not_eq_false']
    by_cases hl : wTo (v i) d i m < wTo (v i) d j m
    · refine .inr ?_
      simp only [excB]
      rw [if_neg (by decide), if_pos trivial, allB_iff]
      intro g hg
      simp only [eachP, goneB, Bool.or_eq_true, Bool.not_eq_true', decide_eq_false_iff_not, decide_eq_true_eq]
      by_cases e : d g = (j : Int)
      · exact .inr (h hl g hg e)
      · exact .inl e
    · exact .inl (by simp only [envB, decide_eq_false_iff_not]; exact hl)
  intro i hi j hj
  have : i = 0 ∨ i = 1 := by omega
  have : j = 0 ∨ j = 1 := by omega
  rcases ‹i = 0 ∨ i = 1› with rfl | rfl <;> rcases ‹j = 0 ∨ j = 1› with rfl | rfl
  · exact key 0 0 (fun h => by omega)
  · exact key 0 1 h0
  · exact key 1 0 h1
  · exact key 1 1 (fun h => by omega)

theorem two_ok (m : Nat) (v : Nat → Nat → Int) (u : Int) (hu : 0 ≤ u) (hb : BdM 2 m v u) : ∃ s, s < 2 ^ m ∧ fairAll 2 m v (bitF s) 2 = true := by
  obtain ⟨d, hd, h0, h1⟩ := efx_two m v u hu hb
  obtain ⟨s, hs, hg⟩ := bits_exist m d hd
  exact ⟨s, hs, fair_of_efx (efx_congr (fun g hgm => (hg g hgm).symm) h0) (efx_congr (fun g hgm => (hg g hgm).symm) h1)⟩
end Go.Proofs.Ytghkcdldkbencab
