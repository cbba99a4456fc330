/- The Shapley payments: raising nothing, players alike, sums, the whole. -/
import Derived.Test.YtoeimngbpagegaaDoorGav
import Derived.Test.YtoeimngbpagegaaDoorGn
namespace Go.Proofs.YtoeimngbpagegaaDoor
open Go.RowKit

theorem pySh {L k : Nat} {C : Nat → Int} (hL : L = 2 ^ k) (hk : k ≤ 4) (hC : ∀ i, i < L → 0 ≤ C i ∧ C i ≤ 1000) : pyAll (shF k L C) k = true := by
  refine allB_iff.2 fun p hp => ?_
  have hf := facN_pos k hk
  have hb := shP_bd k hk C (fun i hi => hC i (by omega)) p hp L (by omega)
  have h16 : L ≤ 16 := by
    subst hL
    have : ∀ k, k ≤ 4 → 2 ^ k ≤ 16 := by decide
    exact this k hk
  have hn : ((facN k : Nat) : Int) ≠ 0 := by omega
  have h1 := r_low (a := shP k C p L) hn
  have h2 := rD_le (a := shP k C p L) hn
  have h3 := rN_abs (a := shP k C p L) hn
  have h4 := rD_pos (a := shP k C p L) hn
  have e0 : shF k L C p 0 = rN (shP k C p L) (facN k : Nat) := rfl
  have e1 : shF k L C p 1 = rD (shP k C p L) (facN k : Nat) := rfl
  show pyOne (shF k L C p 0) (shF k L C p 1) = true
  rw [e0, e1]
  refine pyOne_iff.2 ⟨h1, ?_, ?_, ?_⟩ <;> omega

theorem smG_add (f g : Nat → Int) : ∀ n, smG (fun i => f i + g i) n = smG f n + smG g n := by
  intro n
  induction n with
  | zero => rfl
  | succ n ih => simp only [smG, ih]; omega
theorem smG_congr {f g : Nat → Int} : ∀ n, (∀ i, i < n → f i = g i) → smG f n = smG g n := by
  intro n
  induction n with
  | zero => intro _; rfl
  | succ n ih =>
    intro h
    simp only [smG, ih (fun i hi => h i (by omega)), h n (by omega)]
theorem smG_zero : ∀ n, smG (fun _ => 0) n = 0 := by
  intro n
  induction n with
  | zero => rfl
  | succ n ih => simp only [smG, ih]; rfl
theorem sumO_smG (C : Nat → Int) (k : Nat) (x : Int) : ∀ l : List (List Nat), (∀ o ∈ l, smG (jnX C (oF o) k) k = x) → smG (sumO C k l) k = l.length * x := by
  intro l
  induction l with
  | nil =>
    intro _
    have : sumO C k [] = fun _ => 0 := rfl
    rw [this, smG_zero]
    simp
  | cons o l ih =>
    intro h
    have : sumO C k (o :: l) = fun i => jnX C (oF o) k i + sumO C k l i := rfl
    rw [this, smG_add, h o (by simp), ih (fun o ho => h o (by simp [ho]))]
    have e : (((o :: l).length : Nat) : Int) = (l.length : Int) + 1 := by simp
    rw [e, Int.add_mul]
    omega
/-- All payments together: the cost of all. -/
theorem shP_sum {L k : Nat} {C : Nat → Int} (hL : L = 2 ^ k) (h1 : 1 ≤ k) (hk : k ≤ 4) (h0 : C 0 = 0) : smG (fun p => shP k C p L) k = (facN k : Nat) * C (L - 1) := by
  rw [← ordG_fac k hk, ← sumO_smG C k (C (L - 1)) (ordG k k []) (fun o ho => by
    rw [jnX_sum (ordG_is k hk o ho) k (Nat.le_refl _), jnS_all k hk o ho, ← hL, h0]
    omega)]
  exact smG_congr k (fun p hp => by rw [hL]; exact (sh_all C k p h1 hk hp).symm)
theorem inS_all : ∀ k, k ≤ 4 → ∀ p, p < k → inS (2 ^ k - 1) p = true := by decide
theorem pyS_sum {L k : Nat} {C : Nat → Int} (hk : k ≤ 4) (s : Nat) : ∀ m, m ≤ k → (∀ p, p < m → inS s p = true) → pyS (shF k L C) s m = smG (fun p => shP k C p L) m * (wholeI / (facN k : Nat)) := by
  intro m
  induction m with
  | zero => intro _ _; simp [pyS, smG]
  | succ m ih =>
    intro hm h
    have hf := facN_pos k hk
    have hn : ((facN k : Nat) : Int) ≠ 0 := by omega
    have hd : ((facN k : Nat) : Int) ∣ wholeI := dvd_whole (by omega) (by omega)
    have e : cntF wholeI (shF k L C m 0) (shF k L C m 1) = shP k C m L * (wholeI / (facN k : Nat)) := cnt_r hn hd
    simp only [pyS, smG, ih (by omega) (fun p hp => h p (by omega)), h m (by omega), e, if_true]
    rw [Int.add_mul]
theorem pays_whole {L k : Nat} {C : Nat → Int} {a b : Int} (hL : L = 2 ^ k) (h1 : 1 ≤ k) (hk : k ≤ 4) (h0 : C 0 = 0) (h : PyI (shF k L C) (L - 1) k a b) : a = C (L - 1) ∧ b = 1 := by
  have hf := facN_pos k hk
  have hd : ((facN k : Nat) : Int) ∣ wholeI := dvd_whole (by omega) (by omega)
  refine cnt_inj (W := wholeI) (by unfold wholeI; decide) h.low ⟨by decide, by simp⟩ h.dvd (Int.one_dvd _) ?_
  rw [h.cnt, pyS_sum hk (L - 1) k (Nat.le_refl _) (fun p hp => by rw [hL]; exact inS_all k hk p hp), shP_sum hL h1 hk h0]
  have e : ((facN k : Nat) : Int) * (wholeI / (facN k : Nat)) = wholeI := Int.mul_ediv_cancel' hd
  have e2 : cntF wholeI (C (L - 1)) 1 = C (L - 1) * wholeI := by simp [cntF]
  rw [e2, Int.mul_comm ((facN k : Nat) : Int), Int.mul_assoc, e]

theorem shP_zero {n p : Nat} {C : Nat → Int} : ∀ m, (∀ s, s < m → C (s ||| 2 ^ p) = C s) → shP n C p m = 0 := by
  intro m
  induction m with
  | zero => intro _; rfl
  | succ m ih =>
    intro h
    have hr : riF C m p = 0 := by
      unfold riF
      have := h m (by omega)
      omega
    simp only [shP, ih (fun s hs => h s (by omega)), hr]
    split <;> simp
theorem shP_add {n p : Nat} {C D S : Nat → Int} : ∀ m, (∀ s, s < m → S s = C s + D s) → (∀ s, s < m → S (s ||| 2 ^ p) = C (s ||| 2 ^ p) + D (s ||| 2 ^ p)) → shP n S p m = shP n C p m + shP n D p m := by
  intro m
  induction m with
  | zero => intro _ _; rfl
  | succ m ih =>
    intro h h'
    have hr : riF S m p = riF C m p + riF D m p := by
      unfold riF
      have := h m (by omega)
      have := h' m (by omega)
      omega
    simp only [shP, ih (fun s hs => h s (by omega)) (fun s hs => h' s (by omega)), hr, Int.mul_add]
    split <;> omega
/-- Player i changes some cost, among the first t sets. -/
def raG (C : Nat → Int) (i : Nat) (t : Nat) : Bool := anyB (fun s => !(decide (C (s ||| 2 ^ i) = C s))) t
/-- i and j raise all costs equally, among the first t sets. -/
def alG (C : Nat → Int) (i j : Nat) (t : Nat) : Bool := allB (fun s => inS s i || (inS s j || decide (C (s ||| 2 ^ i) = C (s ||| 2 ^ j)))) t
theorem alG_at {C : Nat → Int} {i j t : Nat} (h : alG C i j t = true) (s : Nat) (hs : s < t) (h1 : inS s i = false) (h2 : inS s j = false) : C (s ||| 2 ^ i) = C (s ||| 2 ^ j) := by
  have := allB_iff.1 h s hs
  rw [h1, h2] at this
  simpa using this
theorem shX10 (C : Nat → Int) : shP 1 C 0 2 = ((0 + 1 * (C 1 - C 0)) + 0) := rfl
theorem shX20 (C : Nat → Int) : shP 2 C 0 4 = ((((0 + 1 * (C 1 - C 0)) + 0) + 1 * (C 3 - C 2)) + 0) := rfl
theorem shX21 (C : Nat → Int) : shP 2 C 1 4 = ((((0 + 1 * (C 2 - C 0)) + 1 * (C 3 - C 1)) + 0) + 0) := rfl
theorem shX30 (C : Nat → Int) : shP 3 C 0 8 = ((((((((0 + 2 * (C 1 - C 0)) + 0) + 1 * (C 3 - C 2)) + 0) + 1 * (C 5 - C 4)) + 0) + 2 * (C 7 - C 6)) + 0) := rfl
theorem shX31 (C : Nat → Int) : shP 3 C 1 8 = ((((((((0 + 2 * (C 2 - C 0)) + 1 * (C 3 - C 1)) + 0) + 0) + 1 * (C 6 - C 4)) + 2 * (C 7 - C 5)) + 0) + 0) := rfl
theorem shX32 (C : Nat → Int) : shP 3 C 2 8 = ((((((((0 + 2 * (C 4 - C 0)) + 1 * (C 5 - C 1)) + 1 * (C 6 - C 2)) + 2 * (C 7 - C 3)) + 0) + 0) + 0) + 0) := rfl
theorem shX40 (C : Nat → Int) : shP 4 C 0 16 = ((((((((((((((((0 + 6 * (C 1 - C 0)) + 0) + 2 * (C 3 - C 2)) + 0) + 2 * (C 5 - C 4)) + 0) + 2 * (C 7 - C 6)) + 0) + 2 * (C 9 - C 8)) + 0) + 2 * (C 11 - C 10)) + 0) + 2 * (C 13 - C 12)) + 0) + 6 * (C 15 - C 14)) + 0) := rfl
theorem shX41 (C : Nat → Int) : shP 4 C 1 16 = ((((((((((((((((0 + 6 * (C 2 - C 0)) + 2 * (C 3 - C 1)) + 0) + 0) + 2 * (C 6 - C 4)) + 2 * (C 7 - C 5)) + 0) + 0) + 2 * (C 10 - C 8)) + 2 * (C 11 - C 9)) + 0) + 0) + 2 * (C 14 - C 12)) + 6 * (C 15 - C 13)) + 0) + 0) := rfl
theorem shX42 (C : Nat → Int) : shP 4 C 2 16 = ((((((((((((((((0 + 6 * (C 4 - C 0)) + 2 * (C 5 - C 1)) + 2 * (C 6 - C 2)) + 2 * (C 7 - C 3)) + 0) + 0) + 0) + 0) + 2 * (C 12 - C 8)) + 2 * (C 13 - C 9)) + 2 * (C 14 - C 10)) + 6 * (C 15 - C 11)) + 0) + 0) + 0) + 0) := rfl
theorem shX43 (C : Nat → Int) : shP 4 C 3 16 = ((((((((((((((((0 + 6 * (C 8 - C 0)) + 2 * (C 9 - C 1)) + 2 * (C 10 - C 2)) + 2 * (C 11 - C 3)) + 2 * (C 12 - C 4)) + 2 * (C 13 - C 5)) + 2 * (C 14 - C 6)) + 6 * (C 15 - C 7)) + 0) + 0) + 0) + 0) + 0) + 0) + 0) + 0) := rfl
theorem sh_alike {L k i j : Nat} {C : Nat → Int} (hL : L = 2 ^ k) (hk : k ≤ 4) (hi : i < k) (hj : j < i) (h : alG C i j L = true) : shP k C i L = shP k C j L := by
  subst hL
  have H := alG_at h
  clear h
  have hc : (k = 2 ∧ i = 1 ∧ j = 0) ∨ (k = 3 ∧ i = 1 ∧ j = 0) ∨ (k = 3 ∧ i = 2 ∧ j = 0) ∨ (k = 3 ∧ i = 2 ∧ j = 1) ∨ (k = 4 ∧ i = 1 ∧ j = 0) ∨ (k = 4 ∧ i = 2 ∧ j = 0) ∨ (k = 4 ∧ i = 2 ∧ j = 1) ∨ (k = 4 ∧ i = 3 ∧ j = 0) ∨ (k = 4 ∧ i = 3 ∧ j = 1) ∨ (k = 4 ∧ i = 3 ∧ j = 2) := by omega
  clear hk hi hj
  rcases hc with ⟨rfl, rfl, rfl⟩ | ⟨rfl, rfl, rfl⟩ | ⟨rfl, rfl, rfl⟩ | ⟨rfl, rfl, rfl⟩ | ⟨rfl, rfl, rfl⟩ | ⟨rfl, rfl, rfl⟩ | ⟨rfl, rfl, rfl⟩ | ⟨rfl, rfl, rfl⟩ | ⟨rfl, rfl, rfl⟩ | ⟨rfl, rfl, rfl⟩
  · show shP 2 C 1 4 = shP 2 C 0 4
    rw [shX21, shX20]
    have e0 : C 2 = C 1 := H 0 (by decide) (by decide) (by decide)
    omega
  · show shP 3 C 1 8 = shP 3 C 0 8
    rw [shX31, shX30]
    have e0 : C 2 = C 1 := H 0 (by decide) (by decide) (by decide)
    have e4 : C 6 = C 5 := H 4 (by decide) (by decide) (by decide)
    omega
  · show shP 3 C 2 8 = shP 3 C 0 8
    rw [shX32, shX30]
    have e0 : C 4 = C 1 := H 0 (by decide) (by decide) (by decide)
    have e2 : C 6 = C 3 := H 2 (by decide) (by decide) (by decide)
    omega
  · show shP 3 C 2 8 = shP 3 C 1 8
    rw [shX32, shX31]
    have e0 : C 4 = C 2 := H 0 (by decide) (by decide) (by decide)
    have e1 : C 5 = C 3 := H 1 (by decide) (by decide) (by decide)
    omega
  · show shP 4 C 1 16 = shP 4 C 0 16
    rw [shX41, shX40]
    have e0 : C 2 = C 1 := H 0 (by decide) (by decide) (by decide)
    have e4 : C 6 = C 5 := H 4 (by decide) (by decide) (by decide)
    have e8 : C 10 = C 9 := H 8 (by decide) (by decide) (by decide)
    have e12 : C 14 = C 13 := H 12 (by decide) (by decide) (by decide)
    omega
  · show shP 4 C 2 16 = shP 4 C 0 16
    rw [shX42, shX40]
    have e0 : C 4 = C 1 := H 0 (by decide) (by decide) (by decide)
    have e2 : C 6 = C 3 := H 2 (by decide) (by decide) (by decide)
    have e8 : C 12 = C 9 := H 8 (by decide) (by decide) (by decide)
    have e10 : C 14 = C 11 := H 10 (by decide) (by decide) (by decide)
    omega
  · show shP 4 C 2 16 = shP 4 C 1 16
    rw [shX42, shX41]
    have e0 : C 4 = C 2 := H 0 (by decide) (by decide) (by decide)
    have e1 : C 5 = C 3 := H 1 (by decide) (by decide) (by decide)
    have e8 : C 12 = C 10 := H 8 (by decide) (by decide) (by decide)
    have e9 : C 13 = C 11 := H 9 (by decide) (by decide) (by decide)
    omega
  · show shP 4 C 3 16 = shP 4 C 0 16
    rw [shX43, shX40]
    have e0 : C 8 = C 1 := H 0 (by decide) (by decide) (by decide)
    have e2 : C 10 = C 3 := H 2 (by decide) (by decide) (by decide)
    have e4 : C 12 = C 5 := H 4 (by decide) (by decide) (by decide)
    have e6 : C 14 = C 7 := H 6 (by decide) (by decide) (by decide)
    omega
  · show shP 4 C 3 16 = shP 4 C 1 16
    rw [shX43, shX41]
    have e0 : C 8 = C 2 := H 0 (by decide) (by decide) (by decide)
    have e1 : C 9 = C 3 := H 1 (by decide) (by decide) (by decide)
    have e4 : C 12 = C 6 := H 4 (by decide) (by decide) (by decide)
    have e5 : C 13 = C 7 := H 5 (by decide) (by decide) (by decide)
    omega
  · show shP 4 C 3 16 = shP 4 C 2 16
    rw [shX43, shX42]
    have e0 : C 8 = C 4 := H 0 (by decide) (by decide) (by decide)
    have e1 : C 9 = C 5 := H 1 (by decide) (by decide) (by decide)
    have e2 : C 10 = C 6 := H 2 (by decide) (by decide) (by decide)
    have e3 : C 11 = C 7 := H 3 (by decide) (by decide) (by decide)
    omega
theorem shF_same {L k i j : Nat} {C : Nat → Int} (h : shP k C i L = shP k C j L) (q : Nat) : shF k L C i q = shF k L C j q := by
  unfold shF
  rw [h]
theorem shF_none {L k i : Nat} {C : Nat → Int} (hk : k ≤ 4) (h : shP k C i L = 0) : shF k L C i 0 = 0 ∧ shF k L C i 1 = 1 := by
  show rN _ _ = 0 ∧ rD _ _ = 1
  rw [h]
  have : ∀ k, k ≤ 4 → rN 0 (facN k : Nat) = 0 ∧ rD 0 (facN k : Nat) = 1 := by decide +kernel
  exact this k hk
theorem shF_add {L k p : Nat} {C D S : Nat → Int} (hk : k ≤ 4) (h : shP k S p L = shP k C p L + shP k D p L) :
    shF k L S p 0 = rN (shF k L C p 0 * shF k L D p 1 + shF k L D p 0 * shF k L C p 1) (shF k L C p 1 * shF k L D p 1) ∧ shF k L S p 1 = rD (shF k L C p 0 * shF k L D p 1 + shF k L D p 0 * shF k L C p 1) (shF k L C p 1 * shF k L D p 1) := by
  have hf := facN_pos k hk
  have hn : ((facN k : Nat) : Int) ≠ 0 := by omega
  have cx : shF k L C p 0 * (facN k : Nat) = shP k C p L * shF k L C p 1 := rN_cross hn
  have cy : shF k L D p 0 * (facN k : Nat) = shP k D p L * shF k L D p 1 := rN_cross hn
  have px : 0 < shF k L C p 1 := rD_pos hn
  have py : 0 < shF k L D p 1 := rD_pos hn
  show rN (shP k S p L) _ = _ ∧ rD (shP k S p L) _ = _
  rw [h]
  generalize shF k L C p 0 = x0 at *
  generalize shF k L C p 1 = x1 at *
  generalize shF k L D p 0 = y0 at *
  generalize shF k L D p 1 = y1 at *
  generalize shP k C p L = a at *
  generalize shP k D p L = b at *
  generalize ((facN k : Nat) : Int) = f at *
  have hxy : x1 * y1 ≠ 0 := by
    have := Int.mul_pos px py
    omega
  refine r_ext hn hxy ?_
  grind
theorem mul_2400 {a d : Int} (h1 : -100000 ≤ a) (h2 : a ≤ 100000) (h3 : 0 < d) (h4 : d ≤ 24) : (a * d).natAbs ≤ 2000000000000000000 := by
  have hd : d = 1 ∨ d = 2 ∨ d = 3 ∨ d = 4 ∨ d = 5 ∨ d = 6 ∨ d = 7 ∨ d = 8 ∨ d = 9 ∨ d = 10 ∨ d = 11 ∨ d = 12 ∨ d = 13 ∨ d = 14 ∨ d = 15 ∨ d = 16 ∨ d = 17 ∨ d = 18 ∨ d = 19 ∨ d = 20 ∨ d = 21 ∨ d = 22 ∨ d = 23 ∨ d = 24 := by omega
  rcases hd with rfl | rfl | rfl | rfl | rfl | rfl | rfl | rfl | rfl | rfl | rfl | rfl | rfl | rfl | rfl | rfl | rfl | rfl | rfl | rfl | rfl | rfl | rfl | rfl <;> omega
end Go.Proofs.YtoeimngbpagegaaDoor
