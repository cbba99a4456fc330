/- The reference's distances, as its loops compute them, are the program's. -/
import Derived.Test.YtclhamemlpbpiaaHq
import Derived.Test.YtclhamemlpbpiaaHm
namespace Go.Proofs.Ytclhamemlpbpiaa

def rlx (S : Nat → Int) (a b c : Nat) (D : Nat → Int) : Nat → Int :=
  if 0 ≤ S (8 * b + c) ∧ 0 ≤ D (8 * a + b) ∧ (D (8 * a + c) < 0 ∨ D (8 * a + b) + S (8 * b + c) < D (8 * a + c)) then upd D (8 * a + c) (D (8 * a + b) + S (8 * b + c)) else D
def rC (S : Nat → Int) (a b : Nat) (D : Nat → Int) : Nat → Nat → Int
  | 0 => D
  | c + 1 => rlx S a b c (rC S a b D c)
def rB (S : Nat → Int) (n a : Nat) (D : Nat → Int) : Nat → Nat → Int
  | 0 => D
  | b + 1 => rC S a b (rB S n a D b) n
def rA (S : Nat → Int) (n : Nat) (D : Nat → Int) : Nat → Nat → Int
  | 0 => D
  | a + 1 => rB S n a (rA S n D a) n
def rR (S : Nat → Int) (n : Nat) (D : Nat → Int) : Nat → Nat → Int
  | 0 => D
  | r + 1 => rA S n (rR S n D r) n

/-- D' has less where D has something. -/
def Lss (D D' : Nat → Int) : Prop := ∀ i, 0 ≤ D i → 0 ≤ D' i ∧ D' i ≤ D i
theorem Lss.refl (D : Nat → Int) : Lss D D := fun _ h => ⟨h, Int.le_refl _⟩
theorem Lss.trans {D E G : Nat → Int} (h : Lss D E) (k : Lss E G) : Lss D G := fun i hi => by
  have h1 := h i hi
  have h2 := k i h1.1
  omega
section
variable {S T : Nat → Int} {n : Nat}
theorem rlx_lss {a b c : Nat} {D : Nat → Int} : Lss D (rlx S a b c D) := by
  unfold rlx
  split
  · rename_i h
    intro i hi
    unfold upd
    split
    · rename_i e
      subst e
      omega
    · exact ⟨hi, Int.le_refl _⟩
  · exact Lss.refl D
theorem rC_lss {a b : Nat} {D : Nat → Int} : ∀ c, Lss D (rC S a b D c) := by
  intro c
  induction c with
  | zero => exact Lss.refl D
  | succ c ih => exact ih.trans rlx_lss
theorem rB_lss {a : Nat} {D : Nat → Int} : ∀ b, Lss D (rB S n a D b) := by
  intro b
  induction b with
  | zero => exact Lss.refl D
  | succ b ih => exact ih.trans (rC_lss n)
theorem rA_lss {D : Nat → Int} : ∀ a, Lss D (rA S n D a) := by
  intro a
  induction a with
  | zero => exact Lss.refl D
  | succ a ih => exact ih.trans (rB_lss n)
/-- Never below the distance. -/
def Low (n : Nat) (T D : Nat → Int) : Prop := ∀ a b, a < n → b < n → D (8 * a + b) = -1 ∨ (0 ≤ D (8 * a + b) ∧ T (8 * a + b) ≤ D (8 * a + b) ∧ T (8 * a + b) < 400)
theorem rlx_low (hn8 : n ≤ 8) (hM : Met n T n) (hS : ∀ b c, b < n → c < n → 0 ≤ S (8 * b + c) → T (8 * b + c) ≤ S (8 * b + c) ∧ ∀ x, x < n → T (8 * x + b) < 400 → T (8 * x + c) < 400) {a b c : Nat} (ha : a < n) (hb : b < n) (hc : c < n) {D : Nat → Int} (h : Low n T D) : Low n T (rlx S a b c D) := by
  unfold rlx
  split
  · rename_i hh
    intro x y hx hy
    rw [upd_cell D (by omega) (by omega)]
    split
    · rename_i e
      obtain ⟨rfl, rfl⟩ := e
      have h1 := hM.tri b hb x y hx hy
      obtain ⟨h2, h4⟩ := hS b y hb hy hh.1
      have h3 := h x b hx hb
      have h5 := h4 x hx (by omega)
      omega
    · exact h x y hx hy
  · exact h
theorem rC_low (hn8 : n ≤ 8) (hM : Met n T n) (hS : ∀ b c, b < n → c < n → 0 ≤ S (8 * b + c) → T (8 * b + c) ≤ S (8 * b + c) ∧ ∀ x, x < n → T (8 * x + b) < 400 → T (8 * x + c) < 400) {a b : Nat} (ha : a < n) (hb : b < n) {D : Nat → Int} (h : Low n T D) : ∀ c, c ≤ n → Low n T (rC S a b D c) := by
  intro c
  induction c with
  | zero => intro _; exact h
  | succ c ih => intro hc; exact rlx_low hn8 hM hS ha hb (by omega) (ih (by omega))
theorem rB_low (hn8 : n ≤ 8) (hM : Met n T n) (hS : ∀ b c, b < n → c < n → 0 ≤ S (8 * b + c) → T (8 * b + c) ≤ S (8 * b + c) ∧ ∀ x, x < n → T (8 * x + b) < 400 → T (8 * x + c) < 400) {a : Nat} (ha : a < n) {D : Nat → Int} (h : Low n T D) : ∀ b, b ≤ n → Low n T (rB S n a D b) := by
  intro b
  induction b with
  | zero => intro _; exact h
  | succ b ih => intro hb; exact rC_low hn8 hM hS ha (by omega) (ih (by omega)) n (Nat.le_refl _)
theorem rA_low (hn8 : n ≤ 8) (hM : Met n T n) (hS : ∀ b c, b < n → c < n → 0 ≤ S (8 * b + c) → T (8 * b + c) ≤ S (8 * b + c) ∧ ∀ x, x < n → T (8 * x + b) < 400 → T (8 * x + c) < 400) {D : Nat → Int} (h : Low n T D) : ∀ a, a ≤ n → Low n T (rA S n D a) := by
  intro a
  induction a with
  | zero => intro _; exact h
  | succ a ih => intro ha; exact rB_low hn8 hM hS (by omega) (ih (by omega)) n (Nat.le_refl _)
theorem rR_low (hn8 : n ≤ 8) (hM : Met n T n) (hS : ∀ b c, b < n → c < n → 0 ≤ S (8 * b + c) → T (8 * b + c) ≤ S (8 * b + c) ∧ ∀ x, x < n → T (8 * x + b) < 400 → T (8 * x + c) < 400) {D : Nat → Int} (h : Low n T D) : ∀ r, Low n T (rR S n D r) := by
  intro r
  induction r with
  | zero => exact h
  | succ r ih => exact rA_low hn8 hM hS ih n (Nat.le_refl _)
/-- A road is used. -/
theorem rC_get {a b c : Nat} {D : Nat → Int} {t : Int} (h0 : 0 ≤ D (8 * a + b)) (h1 : D (8 * a + b) ≤ t) (hs : 0 ≤ S (8 * b + c)) : ∀ k, c < k → 0 ≤ rC S a b D k (8 * a + c) ∧ rC S a b D k (8 * a + c) ≤ t + S (8 * b + c) := by
  intro k
  induction k with
  | zero => intro h; omega
  | succ k ih =>
    intro hk
    rcases Nat.lt_or_ge c k with h | h
    · have h2 := ih h
      have h3 := rlx_lss (S := S) (a := a) (b := b) (c := k) (D := rC S a b D k) (8 * a + c) h2.1
      rw [rC]
      omega
    · obtain rfl : c = k := by omega
      have h2 := rC_lss (S := S) (a := a) (b := b) (D := D) c (8 * a + b) h0
      rw [rC]
      unfold rlx
      by_cases hh : 0 ≤ S (8 * b + c) ∧ 0 ≤ rC S a b D c (8 * a + b) ∧ (rC S a b D c (8 * a + c) < 0 ∨ rC S a b D c (8 * a + b) + S (8 * b + c) < rC S a b D c (8 * a + c))
      · rw [if_pos hh]
        unfold upd
        rw [if_pos rfl]
        omega
      · rw [if_neg hh]
        omega
theorem rB_get {a b c : Nat} {D : Nat → Int} {t : Int} (h0 : 0 ≤ D (8 * a + b)) (h1 : D (8 * a + b) ≤ t) (hs : 0 ≤ S (8 * b + c)) (hc : c < n) : ∀ k, b < k → 0 ≤ rB S n a D k (8 * a + c) ∧ rB S n a D k (8 * a + c) ≤ t + S (8 * b + c) := by
  intro k
  induction k with
  | zero => intro h; omega
  | succ k ih =>
    intro hk
    rcases Nat.lt_or_ge b k with h | h
    · have h2 := ih h
      have h3 := rC_lss (S := S) (a := a) (b := k) (D := rB S n a D k) n (8 * a + c) h2.1
      rw [rB]
      omega
    · obtain rfl : b = k := by omega
      have h2 := rB_lss (S := S) (n := n) (a := a) (D := D) b (8 * a + b) h0
      exact rC_get h2.1 (by omega) hs n hc
theorem rA_get {a b c : Nat} {D : Nat → Int} {t : Int} (h0 : 0 ≤ D (8 * a + b)) (h1 : D (8 * a + b) ≤ t) (hs : 0 ≤ S (8 * b + c)) (hb : b < n) (hc : c < n) : ∀ k, a < k → 0 ≤ rA S n D k (8 * a + c) ∧ rA S n D k (8 * a + c) ≤ t + S (8 * b + c) := by
  intro k
  induction k with
  | zero => intro h; omega
  | succ k ih =>
    intro hk
    rcases Nat.lt_or_ge a k with h | h
    · have h2 := ih h
      have h3 := rB_lss (S := S) (n := n) (a := k) (D := rA S n D k) n (8 * a + c) h2.1
      rw [rA]
      omega
    · obtain rfl : a = k := by omega
      have h2 := rA_lss (S := S) (n := n) (D := D) a (8 * a + b) h0
      exact rB_get h2.1 (by omega) hs hc n hb
/-- Bounds. -/
theorem rlx_le {a b c : Nat} {D : Nat → Int} {M : Int} (_ : 0 ≤ M) (hs : ∀ i, S i ≤ 50) (h : ∀ i, D i ≤ M) : ∀ i, rlx S a b c D i ≤ M + 50 := by
  intro i
  unfold rlx
  have h1 := h i
  have h2 := h (8 * a + b)
  have h3 := hs (8 * b + c)
  split
  · unfold upd
    split <;> omega
  · omega
theorem rC_le {a b : Nat} {D : Nat → Int} {M : Int} (hM : 0 ≤ M) (hs : ∀ i, S i ≤ 50) (h : ∀ i, D i ≤ M) : ∀ (c : Nat) i, rC S a b D c i ≤ M + 50 * c := by
  intro c
  induction c with
  | zero => intro i; have := h i; simpa [rC] using this
  | succ c ih => intro i; have := rlx_le (S := S) (a := a) (b := b) (c := c) (M := M + 50 * c) (by omega) hs ih i; rw [rC]; push_cast; omega
theorem rB_le {a : Nat} {D : Nat → Int} {M : Int} (hn8 : n ≤ 8) (hM : 0 ≤ M) (hs : ∀ i, S i ≤ 50) (h : ∀ i, D i ≤ M) : ∀ (b : Nat) i, rB S n a D b i ≤ M + 400 * b := by
  intro b
  induction b with
  | zero => intro i; have := h i; simpa [rB] using this
  | succ b ih => intro i; have := rC_le (S := S) (a := a) (b := b) (M := M + 400 * b) (by omega) hs ih n i; rw [rB]; push_cast; omega
theorem rA_le {D : Nat → Int} {M : Int} (hn8 : n ≤ 8) (hM : 0 ≤ M) (hs : ∀ i, S i ≤ 50) (h : ∀ i, D i ≤ M) : ∀ (a : Nat) i, rA S n D a i ≤ M + 3200 * a := by
  intro a
  induction a with
  | zero => intro i; have := h i; simpa [rA] using this
  | succ a ih => intro i; have := rB_le (S := S) (n := n) (a := a) (M := M + 3200 * a) hn8 (by omega) hs ih n i; rw [rA]; push_cast; omega
theorem rR_le {D : Nat → Int} {M : Int} (hn8 : n ≤ 8) (hM : 0 ≤ M) (hs : ∀ i, S i ≤ 50) (h : ∀ i, D i ≤ M) : ∀ (r : Nat) i, rR S n D r i ≤ M + 25600 * r := by
  intro r
  induction r with
  | zero => intro i; have := h i; simpa [rR] using this
  | succ r ih => intro i; have := rA_le (S := S) (n := n) (M := M + 25600 * r) hn8 (by omega) hs ih n i; rw [rR]; push_cast; omega
end
/-- The table that the reference begins with: 0 on the diagonal, -1 off it. -/
def d0T : Nat → Int := fun i => if i / 8 = i % 8 then 0 else -1
theorem d0T_at {a b : Nat} (hb : b < 8) : d0T (8 * a + b) = if a = b then 0 else -1 := by
  unfold d0T
  rw [show (8 * a + b) / 8 = a by omega, show (8 * a + b) % 8 = b by omega]
/-- The reference's steps as a table. -/
def srT (m : Nat) (F : Nat → Nat → Int) : Nat → Int := fun i => stR F (i / 8 : Nat) (i % 8 : Nat) m
theorem srT_at {m a b : Nat} {F : Nat → Nat → Int} (hb : b < 8) : srT m F (8 * a + b) = stR F a b m := by
  unfold srT
  rw [show (8 * a + b) / 8 = a by omega, show (8 * a + b) % 8 = b by omega]
/-- Both have the same distances. -/
theorem rR_dist {n m : Nat} {F : Nat → Nat → Int} (hok : okM n m F = true) {a b : Nat} (ha : a < n) (hb : b < n) : rR (srT m F) n d0T n (8 * a + b) = dOf (dsT n m F (8 * a + b)) := by
  have hM := dsT_met hok
  have hB := dsT_bd hok
  have hn8 : n ≤ 8 := by have := (okM_iff.1 hok).1; omega
  have hS := stT_met hok
  have hL : Lst n (stT n m F) (dsT n m F) := dS_lst hn8 hS (fun x y hx hy hxy h => ⟨x, hx, hxy, stT_small hok x y hx hy hxy h, by rw [hS.diag x hx]; omega⟩) n (Nat.le_refl _)
  have hle : ∀ i, dsT n m F i ≤ stT n m F i := dS_le n
  have hst : ∀ x y, x < n → y < n → 0 ≤ srT m F (8 * x + y) → x ≠ y ∧ srT m F (8 * x + y) = stT n m F (8 * x + y) := fun x y hx hy h => by
    rw [srT_at (by omega)] at h ⊢
    by_cases e : x = y
    · subst e
      rw [stR_none hok x m (Nat.le_refl _)] at h
      omega
    · rw [stT_stR hok hx hy e, if_neg (by omega)]
      exact ⟨e, rfl⟩
  have hlow : Low n (dsT n m F) (rR (srT m F) n d0T n) := rR_low hn8 hM (fun b c hb hc h => by
    obtain ⟨-, e⟩ := hst b c hb hc h
    have h1 := hle (8 * b + c)
    have h2 := (stR_rng hok b c m (Nat.le_refl _)).2.1
    rw [srT_at (by omega)] at e h
    refine ⟨by rw [srT_at (by omega)]; omega, fun x hx hlt => dsT_edge hok hx hb hc hlt (by omega)⟩) (fun x y hx hy => by
    rw [d0T_at (by omega)]
    by_cases e : x = y
    · subst e
      rw [if_pos rfl, hM.diag x hx]
      exact .inr ⟨Int.le_refl _, Int.le_refl _, by omega⟩
    · rw [if_neg e]
      exact .inl rfl) n
  have hdone : ∀ (r y : Nat), y < n → dsT n m F (8 * a + y) < 400 → cnB (fun v => decide (dsT n m F (8 * a + v) < dsT n m F (8 * a + y))) n ≤ r → 0 ≤ rR (srT m F) n d0T r (8 * a + y) ∧ rR (srT m F) n d0T r (8 * a + y) ≤ dsT n m F (8 * a + y) := by
    intro r
    induction r with
    | zero =>
      intro y hy hlt hr
      by_cases e : a = y
      · subst e
        rw [rR, d0T_at (by omega), if_pos rfl, hM.diag a ha]
        omega
      · have h1 := hM.off a y ha hy e
        have h2 := hM.diag a ha
        have h3 := cnB_lt (p := fun _ => false) (q := fun v => decide (dsT n m F (8 * a + v) < dsT n m F (8 * a + y))) (n := n) (z := a) (fun _ _ h => by cases h) ha rfl (decide_eq_true (by omega))
        omega
    | succ r ih =>
      intro y hy hlt hr
      by_cases e : a = y
      · subst e
        have h1 : ∀ q, 0 ≤ rR (srT m F) n d0T q (8 * a + a) ∧ rR (srT m F) n d0T q (8 * a + a) ≤ 0 := by
          intro q
          induction q with
          | zero => rw [rR, d0T_at (by omega), if_pos rfl]; omega
          | succ q ihq =>
            have := rA_lss (S := srT m F) (n := n) (D := rR (srT m F) n d0T q) n (8 * a + a) ihq.1
            rw [rR]
            omega
        rw [hM.diag a ha]
        exact h1 (r + 1)
      · obtain ⟨z, hz, hzy, he, h2⟩ := hL a y ha hy e hlt
        have h3 := hS.off z y hz hy hzy
        have h6 := stT_stR hok hz hy hzy
        have h7 : ¬ stR F z y m < 0 := fun h => by
          rw [if_pos h] at h6
          omega
        rw [if_neg h7] at h6
        have h8 := cnB_lt (p := fun v => decide (dsT n m F (8 * a + v) < dsT n m F (8 * a + z))) (q := fun v => decide (dsT n m F (8 * a + v) < dsT n m F (8 * a + y))) (n := n) (z := z) (fun v _ hp => decide_eq_true (by have := of_decide_eq_true hp; omega)) hz (decide_eq_false (by omega)) (decide_eq_true (by omega))
        have h9 := ih z hz (by omega) (by omega)
        have h10 := rA_get (S := srT m F) (n := n) (a := a) (b := z) (c := y) h9.1 h9.2 (by rw [srT_at (by omega)]; omega) hz hy n ha
        rw [srT_at (by omega)] at h10
        rw [rR]
        omega
  have hl := hlow a b ha hb
  have hb2 := hB (8 * a + b)
  unfold dOf
  by_cases h400 : dsT n m F (8 * a + b) = 400
  · rw [if_pos h400]
    rcases hl with h | h
    · exact h
    · omega
  · rw [if_neg h400]
    have h1 := hdone n b hb (by omega) (cnB_top n)
    rcases hl with h | h
    · omega
    · omega
end Go.Proofs.Ytclhamemlpbpiaa
