/- Sets of jobs that can be on time: plain words. -/
import Derived.Test.YtbgekacfimgkeaaQc
import Derived.Test.YtbgekacfimgkeaaSo
namespace Go.Proofs.Ytbgekacfimgkeaa
open Go.RowKit

/-- Bit a of a set. -/
def btN (s a : Nat) : Bool := decide (s / 2 ^ a % 2 = 1)
/-- A set without a. -/
def btX (s a : Nat) : Nat := s - (s / 2 ^ a % 2) * 2 ^ a
theorem btX_bit : ∀ a, a < 8 → ∀ s, s < 256 → ∀ b, b < 8 → btN (btX s a) b = (btN s b && !decide (b = a)) := by decide +kernel
theorem btX_le (s a : Nat) : btX s a ≤ s := Nat.sub_le _ _

/-- The Times of those of the set that are due by d. -/
def lsF (J : Nat → Nat → Int) (s : Nat) (d : Int) (k : Nat) : Int := if btN s k = true ∧ J k 2 ≤ d then J k 0 else 0
def ldS (n : Nat) (J : Nat → Nat → Int) (s : Nat) (d : Int) : Int := smT (lsF J s d) n
/-- The set can be on time. -/
def fitP (n : Nat) (J : Nat → Nat → Int) (s : Nat) (now : Int) (j : Nat) : Bool := !btN s j || decide (now + ldS n J s (J j 2) ≤ J j 2)
def fitG (n : Nat) (J : Nat → Nat → Int) (s : Nat) (now : Int) : Bool := allB (fitP n J s now) n
def fitB (n : Nat) (J : Nat → Nat → Int) (s : Nat) : Bool := fitG n J s 0
theorem fitG_iff {n : Nat} {J : Nat → Nat → Int} {s : Nat} {now : Int} : fitG n J s now = true ↔ ∀ j, j < n → btN s j = true → now + ldS n J s (J j 2) ≤ J j 2 := by
  unfold fitG
  rw [allB_iff]
  constructor
  · intro h j hj hb
    have := h j hj
    unfold fitP at this
    rw [hb] at this
    simpa using this
  · intro h j hj
    unfold fitP
    cases hb : btN s j with
    | false => rfl
    | true => simpa using h j hj hb

/-- Sums over a list. -/
def suL : List Int → Int
  | [] => 0
  | x :: xs => x + suL xs
theorem suL_append (a b : List Int) : suL (a ++ b) = suL a + suL b := by
  induction a with
  | nil => simp [suL]
  | cons x a ih => simp only [List.cons_append, suL, ih]; omega
theorem suL_perm {a b : List Int} (h : a.Perm b) : suL a = suL b := by
  induction h with
  | nil => rfl
  | cons x _ ih => simp only [suL, ih]
  | swap x y l => simp only [suL]; omega
  | trans _ _ h1 h2 => exact h1.trans h2
theorem smT_suL (g : Int → Int) (f : Nat → Int) (n : Nat) : smT (fun a => g (f a)) n = suL ((lst n f).map g) := by
  induction n with
  | zero => rfl
  | succ n ih => rw [smT, lst_succ, List.map_append, suL_append, ih]; simp [suL]
/-- A sum over all, in another order. -/
theorem smT_perm {n : Nat} {f : Nat → Int} (h : (lst n f).Perm (lst n (fun k => (k : Int)))) (g : Nat → Int) : smT (fun a => g (f a).toNat) n = smT g n := by
  have h1 := smT_suL (fun x => g x.toNat) f n
  have h2 := smT_suL (fun x => g x.toNat) (fun k => (k : Int)) n
  rw [suL_perm (h.map _)] at h1
  rw [h1, ← h2]
  exact smT_congr (fun k _ => by simp)
theorem perm_rng {n : Nat} {f : Nat → Int} (h : (lst n f).Perm (lst n (fun k => (k : Int)))) {a : Nat} (ha : a < n) : 0 ≤ f a ∧ f a < n := by
  have h1 : f a ∈ lst n f := List.mem_of_getElem? (lst_get n f a ha)
  have h2 := h.mem_iff.1 h1
  unfold lst at h2
  obtain ⟨k, hk, e⟩ := List.mem_map.1 h2
  have := List.mem_range.1 hk
  omega
theorem perm_has {n : Nat} {f : Nat → Int} (h : (lst n f).Perm (lst n (fun k => (k : Int)))) {j : Nat} (hj : j < n) : ∃ a, a < n ∧ f a = (j : Int) := by
  have h1 : (j : Int) ∈ lst n (fun k => (k : Int)) := List.mem_of_getElem? (lst_get n (fun k => (k : Int)) j hj)
  have h2 := h.mem_iff.2 h1
  unfold lst at h2
  obtain ⟨k, hk, e⟩ := List.mem_map.1 h2
  exact ⟨k, List.mem_range.1 hk, e⟩
theorem last_ex {P : Nat → Prop} : ∀ n, (∃ a, a < n ∧ P a) → ∃ a, a < n ∧ P a ∧ ∀ b, a < b → b < n → ¬ P b := by
  intro n
  induction n with
  | zero => rintro ⟨a, h, -⟩; omega
  | succ n ih =>
    rintro ⟨a, ha, hp⟩
    by_cases hn : P n
    · exact ⟨n, by omega, hn, fun b h1 h2 => by omega⟩
    · have hne : a ≠ n := fun e => hn (e ▸ hp)
      obtain ⟨b, h1, h2, h3⟩ := ih ⟨a, by omega, hp⟩
      refine ⟨b, by omega, h2, fun c hc1 hc2 => ?_⟩
      by_cases e : c = n
      · subst e
        exact hn
      · exact h3 c hc1 (by omega)
theorem smT_part {f : Nat → Int} {n : Nat} : ∀ {m}, n ≤ m → (∀ k, n ≤ k → k < m → f k = 0) → smT f m = smT f n := by
  intro m
  induction m with
  | zero =>
    intro h _
    obtain rfl : n = 0 := by omega
    rfl
  | succ m ih =>
    intro h h0
    by_cases e : n = m + 1
    · rw [e]
    · rw [smT, ih (by omega) (fun k h1 h2 => h0 k h1 (by omega)), h0 m (by omega) (by omega), Int.add_zero]
theorem smT_mono {f : Nat → Int} {n : Nat} : ∀ {m}, n ≤ m → (∀ k, n ≤ k → k < m → 0 ≤ f k) → smT f n ≤ smT f m := by
  intro m
  induction m with
  | zero =>
    intro h _
    obtain rfl : n = 0 := by omega
    exact Int.le_refl _
  | succ m ih =>
    intro h h0
    by_cases e : n = m + 1
    · rw [e]
      exact Int.le_refl _
    · have := ih (by omega) (fun k h1 h2 => h0 k h1 (by omega))
      have := h0 m (by omega) (by omega)
      rw [smT]
      omega

/-- In an order: what has been worked on for the set up to place i; the job at place a is on time. -/
def nwF (J : Nat → Nat → Int) (s : Nat) (f : Nat → Int) (a : Nat) : Int := if btN s (f a).toNat = true then J (f a).toNat 0 else 0
def otP (J : Nat → Nat → Int) (s : Nat) (f : Nat → Int) (a : Nat) : Bool := !btN s (f a).toNat || decide (smT (nwF J s f) (a + 1) ≤ J (f a).toNat 2)
/-- Done first, in the order of Due, they are on time exactly if they can be. -/
theorem onT_fit {n : Nat} {J : Nat → Nat → Int} {f : Nat → Int} {s : Nat} (hp : (lst n f).Perm (lst n (fun k => (k : Int)))) (hs : Srt (fun x => J x.toNat 2) f n) (h0 : ∀ k, k < n → 0 ≤ J k 0) : allB (otP J s f) n = fitB n J s := by
  have hrg := fun a (ha : a < n) => perm_rng hp ha
  have hld : ∀ d, ldS n J s d = smT (fun a => lsF J s d (f a).toNat) n := fun d => (smT_perm hp (lsF J s d)).symm
  have hle : ∀ a b, a ≤ b → b < n → J (f a).toNat 2 ≤ J (f b).toNat 2 := fun a b h1 h2 => by
    rcases Nat.lt_or_ge a b with hl | hl
    · exact hs a b hl h2
    · obtain rfl : a = b := by omega
      exact Int.le_refl _
  have hg0 : ∀ d a, a < n → 0 ≤ lsF J s d (f a).toNat := fun d a ha => by
    unfold lsF
    have := hrg a ha
    split
    · exact h0 _ (by omega)
    · exact Int.le_refl _
  rw [Bool.eq_iff_iff]
  unfold fitB
  rw [fitG_iff, allB_iff]
  constructor
  · intro h j hj hb
    obtain ⟨a0, ha0, e0⟩ := perm_has hp hj
    obtain ⟨a, ha, ⟨h1, h2⟩, h3⟩ := last_ex (P := fun a => btN s (f a).toNat = true ∧ J (f a).toNat 2 = J j 2) n ⟨a0, ha0, by rw [e0]; exact ⟨hb, rfl⟩⟩
    have h4 := h a ha
    unfold otP at h4
    rw [h1] at h4
    simp at h4
    rw [Int.zero_add, hld, smT_part (n := a + 1) (by omega) (fun k hk1 hk2 => ?_)]
    · have : smT (fun a => lsF J s (J j 2) (f a).toNat) (a + 1) ≤ smT (nwF J s f) (a + 1) := smT_le (fun k hk => by
        unfold lsF nwF
        have := hrg k (by omega)
        have := h0 (f k).toNat (by omega)
        split
        · rename_i hh
          rw [if_pos hh.1]
          exact Int.le_refl _
        · split <;> omega)
      omega
    · show lsF _ _ _ _ = 0
      unfold lsF
      rw [if_neg]
      rintro ⟨k1, k2⟩
      have := hle a k (by omega) hk2
      exact h3 k (by omega) hk2 ⟨k1, by omega⟩
  · intro h a ha
    unfold otP
    cases hb : btN s (f a).toNat with
    | false => rfl
    | true =>
      have hra := hrg a ha
      have h1 := h (f a).toNat (by omega) hb
      rw [hld] at h1
      have h2 : smT (nwF J s f) (a + 1) ≤ smT (fun b => lsF J s (J (f a).toNat 2) (f b).toNat) (a + 1) := smT_le (fun k hk => by
        unfold lsF nwF
        have := hle k a (by omega) ha
        split
        · rename_i hh
          rw [if_pos ⟨hh, this⟩]
          exact Int.le_refl _
        · rename_i hh
          rw [if_neg (fun e => hh e.1)]
          exact Int.le_refl _)
      have h3 := smT_mono (f := fun b => lsF J s (J (f a).toNat 2) (f b).toNat) (n := a + 1) (m := n) (by omega) (fun k _ hk => hg0 _ k hk)
      simp
      omega

/-- One after another: the job that is due first, and then the others. -/
theorem ldS_out {n : Nat} {J : Nat → Nat → Int} {s at_ : Nat} {d : Int} (hn : n ≤ 8) (hs : s < 256) (ha : at_ < n) (hb : btN s at_ = true) (hd : J at_ 2 ≤ d) : ldS n J s d = ldS n J (btX s at_) d + J at_ 0 := by
  have e : lsF J s d = upd (lsF J (btX s at_) d) at_ (J at_ 0) ∨ ∃ k, n ≤ k ∧ True := .inr ⟨n, Nat.le_refl _, trivial⟩
  clear e
  have h1 : smT (lsF J s d) n = smT (upd (lsF J (btX s at_) d) at_ (J at_ 0)) n := smT_congr (fun k hk => by
    by_cases e : k = at_
    · subst e
      rw [upd_at]
      unfold lsF
      rw [if_pos ⟨hb, hd⟩]
    · rw [upd_ne _ _ e]
      unfold lsF
      rw [btX_bit at_ (by omega) s hs k (by omega)]
      simp [e])
  unfold ldS
  rw [h1, smT_upd, if_pos ha]
  have h2 : lsF J (btX s at_) d at_ = 0 := by
    unfold lsF
    rw [btX_bit at_ (by omega) s hs at_ (by omega)]
    simp
  rw [h2]
  omega
theorem fitG_step {n : Nat} {J : Nat → Nat → Int} {s at_ : Nat} {now : Int} (hn : n ≤ 8) (hs : s < 256) (h0 : ∀ k, k < n → 0 ≤ J k 0) (ha : at_ < n) (hb : btN s at_ = true) (hm : ∀ k, k < n → btN s k = true → J at_ 2 ≤ J k 2) :
    fitG n J s now = true ↔ now + J at_ 0 ≤ J at_ 2 ∧ fitG n J (btX s at_) (now + J at_ 0) = true := by
  have hbx := fun k (hk : k < n) => btX_bit at_ (by omega) s hs k (by omega)
  have hnn : ∀ d, 0 ≤ ldS n J (btX s at_) d := fun d => smT_nonneg (fun k hk => by
    unfold lsF
    have := h0 k hk
    split <;> omega)
  rw [fitG_iff, fitG_iff]
  constructor
  · intro h
    have h1 := h at_ ha hb
    rw [ldS_out hn hs ha hb (Int.le_refl _)] at h1
    have := hnn (J at_ 2)
    refine ⟨by omega, fun j hj hbj => ?_⟩
    rw [hbx j hj] at hbj
    obtain ⟨k1, -⟩ := Bool.and_eq_true_iff.1 hbj
    have h2 := h j hj k1
    rw [ldS_out hn hs ha hb (hm j hj k1)] at h2
    omega
  · rintro ⟨h1, h2⟩ j hj hbj
    rw [ldS_out hn hs ha hb (hm j hj hbj)]
    by_cases e : j = at_
    · subst e
      by_cases hx : ∃ k, k < n ∧ btN (btX s j) k = true ∧ J k 2 = J j 2
      · obtain ⟨k, hk, hk1, hk2⟩ := hx
        have := h2 k hk hk1
        rw [hk2] at this
        omega
      · have hz : ldS n J (btX s j) (J j 2) = 0 := by
          unfold ldS
          rw [smT_part (n := 0) (Nat.zero_le _) (fun k _ hk => ?_)]
          · rfl
          · unfold lsF
            rw [if_neg]
            rintro ⟨k1, k2⟩
            have h3 := k1
            rw [hbx k hk] at h3
            have := hm k hk (Bool.and_eq_true_iff.1 h3).1
            exact hx ⟨k, hk, k1, by omega⟩
        omega
    · have h3 : btN (btX s at_) j = true := by
        rw [hbx j hj, hbj]
        simp [e]
      have := h2 j hj h3
      omega
/-- How many of the set there are. -/
def ctS (s : Nat) (n : Nat) : Int := smT (fun k => if btN s k = true then 1 else 0) n
theorem ctS_out {n s at_ : Nat} (hn : n ≤ 8) (hs : s < 256) (ha : at_ < n) (hb : btN s at_ = true) : ctS (btX s at_) n = ctS s n - 1 := by
  have h1 : smT (fun k => if btN (btX s at_) k = true then (1 : Int) else 0) n = smT (upd (fun k => if btN s k = true then 1 else 0) at_ 0) n := smT_congr (fun k hk => by
    by_cases e : k = at_
    · subst e
      rw [upd_at, btX_bit k (by omega) s hs k (by omega)]
      simp
    · rw [upd_ne _ _ e, btX_bit at_ (by omega) s hs k (by omega)]
      simp [e])
  unfold ctS
  rw [h1, smT_upd, if_pos ha, if_pos hb]
  omega
theorem ctS_zero {n s : Nat} (h : ctS s n ≤ 0) : ∀ k, k < n → btN s k = false := fun k hk => by
  have h1 : ∀ k, k < n → (0 : Int) ≤ if btN s k = true then 1 else 0 := fun k _ => by split <;> omega
  have h2 := smT_zero h1 (by have := smT_nonneg h1; have h : smT _ n ≤ 0 := h; omega) k hk
  cases hb : btN s k with
  | false => rfl
  | true => rw [if_pos hb] at h2; omega
theorem ctS_le (s n : Nat) : ctS s n ≤ n := by
  induction n with
  | zero => exact Int.le_refl _
  | succ n ih =>
    have : ctS s (n + 1) = ctS s n + if btN s n = true then 1 else 0 := rfl
    rw [this]
    split <;> omega
theorem fitG_none {n s : Nat} {J : Nat → Nat → Int} {now : Int} (h : ∀ k, k < n → btN s k = false) : fitG n J s now = true := by
  rw [fitG_iff]
  intro j hj hb
  rw [h j hj] at hb
  cases hb

/-- The sum of the weights of a set; the first of the sets below N that are on time with the greatest sum, and that sum. -/
def wtS (n : Nat) (wt : Nat → Int) (s : Nat) : Int := smT (fun k => if btN s k = true then wt k else 0) n
def hvF (g : Nat → Int) (ok : Nat → Bool) : Nat → Nat × Int
  | 0 => (0, 0)
  | N + 1 => if (hvF g ok N).2 < g N ∧ ok N = true then (N, g N) else hvF g ok N
theorem hvF_le (g : Nat → Int) (ok : Nat → Bool) : ∀ N, (hvF g ok N).1 ≤ N := by
  intro N
  induction N with
  | zero => exact Nat.le_refl _
  | succ N ih =>
    rw [hvF]
    split
    · show N ≤ N + 1
      omega
    · omega
theorem hvF_rng {g : Nat → Int} (ok : Nat → Bool) {b : Int} (hb : 0 ≤ b) (h : ∀ s, g s ≤ b) : ∀ N, 0 ≤ (hvF g ok N).2 ∧ (hvF g ok N).2 ≤ b := by
  intro N
  induction N with
  | zero => exact ⟨Int.le_refl _, hb⟩
  | succ N ih =>
    rw [hvF]
    split
    · rename_i hh
      have := h N
      show 0 ≤ g N ∧ g N ≤ b
      omega
    · exact ih
theorem wtS_rng {n s : Nat} {wt : Nat → Int} {b : Nat} (h : ∀ k, k < n → 0 ≤ wt k ∧ wt k ≤ b) : ∀ m, m ≤ n → 0 ≤ wtS m wt s ∧ wtS m wt s ≤ m * b := by
  intro m
  induction m with
  | zero => intro _; exact ⟨Int.le_refl _, by show (0 : Int) ≤ _; simp⟩
  | succ m ih =>
    intro hm
    have h1 := ih (by omega)
    have h2 := h m (by omega)
    have : wtS (m + 1) wt s = wtS m wt s + if btN s m = true then wt m else 0 := rfl
    rw [this]
    have e : ((m + 1 : Nat) : Int) * b = m * b + b := by push_cast; rw [Int.add_mul, Int.one_mul]
    rw [e]
    split <;> omega
end Go.Proofs.Ytbgekacfimgkeaa
