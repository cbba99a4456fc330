/- The plan by a rule, unit by unit: plain words. -/
import Derived.Test.YtbgekacfimgkeaaQb
namespace Go.Proofs.Ytbgekacfimgkeaa

/-- f 0 + .. + f (n-1). -/
def smT (f : Nat → Int) : Nat → Int
  | 0 => 0
  | n + 1 => smT f n + f n
theorem smT_congr {f g : Nat → Int} {n : Nat} (h : ∀ k, k < n → f k = g k) : smT f n = smT g n := by
  induction n with
  | zero => rfl
  | succ n ih => rw [smT, smT, ih (fun k hk => h k (by omega)), h n (by omega)]
theorem smT_nonneg {f : Nat → Int} {n : Nat} (h : ∀ k, k < n → 0 ≤ f k) : 0 ≤ smT f n := by
  induction n with
  | zero => exact Int.le_refl _
  | succ n ih =>
    have := ih (fun k hk => h k (by omega))
    have := h n (by omega)
    rw [smT]
    omega
theorem smT_le {f g : Nat → Int} {n : Nat} (h : ∀ k, k < n → f k ≤ g k) : smT f n ≤ smT g n := by
  induction n with
  | zero => exact Int.le_refl _
  | succ n ih =>
    have := ih (fun k hk => h k (by omega))
    have := h n (by omega)
    rw [smT, smT]
    omega
theorem smT_upd {f : Nat → Int} {j : Nat} {x : Int} : ∀ {n : Nat}, smT (upd f j x) n = smT f n + (if j < n then x - f j else 0) := by
  intro n
  induction n with
  | zero => simp [smT]
  | succ n ih =>
    rw [smT, smT, ih]
    by_cases e : n = j
    · subst e
      rw [upd_at, if_neg (by omega), if_pos (by omega)]
      omega
    · rw [upd_ne _ _ e]
      by_cases h : j < n
      · rw [if_pos h, if_pos (by omega)]
        omega
      · rw [if_neg h, if_neg (by omega)]
        omega
theorem smT_zero {f : Nat → Int} {n : Nat} (h : ∀ k, k < n → 0 ≤ f k) (h0 : smT f n = 0) : ∀ k, k < n → f k = 0 := by
  induction n with
  | zero => intro k hk; omega
  | succ n ih =>
    have h1 := smT_nonneg (n := n) (fun k hk => h k (by omega))
    have h2 := h n (by omega)
    rw [smT] at h0
    intro k hk
    rcases Nat.lt_or_ge k n with hl | hl
    · exact ih (fun k hk => h k (by omega)) (by omega) k hl
    · obtain rfl : k = n := by omega
      omega
theorem smT_pos {f : Nat → Int} {n k : Nat} (h : ∀ k, k < n → 0 ≤ f k) (hk : k < n) (hf : 0 < f k) : 0 < smT f n := by
  rcases Int.lt_or_le 0 (smT f n) with h0 | h0
  · exact h0
  · have := smT_zero h (by have := smT_nonneg h; omega) k hk
    omega

/-- Of the first k jobs the first with the least rank, among those that are left and released; -1: there is none. -/
def avl (left r : Nat → Int) (now : Int) (k : Nat) : Bool := !(decide (left k = 0)) && decide (r k ≤ now)
def chF (left r rk : Nat → Int) (now : Int) : Nat → Int
  | 0 => -1
  | k + 1 => if avl left r now k = true then (if chF left r rk now k < 0 ∨ rk k < rk (chF left r rk now k).toNat then (k : Int) else chF left r rk now k) else chF left r rk now k
section
variable {left r rk : Nat → Int} {now : Int}
/-- Either nothing is there, or the chosen one is, has no greater rank than any, and a smaller one than those before. -/
theorem chF_spec : ∀ n, (chF left r rk now n = -1 ∧ ∀ k, k < n → avl left r now k = false) ∨ ∃ j : Nat, j < n ∧ chF left r rk now n = (j : Int) ∧ avl left r now j = true ∧ (∀ k, k < n → avl left r now k = true → rk j ≤ rk k) ∧ (∀ k, k < j → avl left r now k = true → rk j < rk k) := by
  intro n
  induction n with
  | zero => exact .inl ⟨rfl, fun k h => by omega⟩
  | succ n ih =>
    rw [chF]
    cases ha : avl left r now n with
    | false =>
      rw [if_neg (by simp)]
      rcases ih with ⟨h1, h2⟩ | ⟨j, h1, h2, h3, h4, h5⟩
      · refine .inl ⟨h1, fun k hk => ?_⟩
        rcases Nat.lt_or_ge k n with hl | hl
        · exact h2 k hl
        · obtain rfl : k = n := by omega
          exact ha
      · refine .inr ⟨j, by omega, h2, h3, fun k hk h => ?_, h5⟩
        rcases Nat.lt_or_ge k n with hl | hl
        · exact h4 k hl h
        · obtain rfl : k = n := by omega
          rw [ha] at h
          cases h
    | true =>
      rw [if_pos rfl]
      rcases ih with ⟨h1, h2⟩ | ⟨j, h1, h2, h3, h4, h5⟩
      · rw [h1, if_pos (.inl (by omega))]
        refine .inr ⟨n, by omega, rfl, ha, fun k hk h => ?_, fun k hk h => ?_⟩
        · rcases Nat.lt_or_ge k n with hl | hl
          · rw [h2 k hl] at h
            cases h
          · obtain rfl : k = n := by omega
            exact Int.le_refl _
        · rw [h2 k hk] at h
          cases h
      · rw [h2]
        simp only [Int.toNat_natCast]
        by_cases hlt : rk n < rk j
        · rw [if_pos (.inr hlt)]
          refine .inr ⟨n, by omega, rfl, ha, fun k hk h => ?_, fun k hk h => ?_⟩
          · rcases Nat.lt_or_ge k n with hl | hl
            · have := h4 k hl h
              omega
            · obtain rfl : k = n := by omega
              exact Int.le_refl _
          · have := h4 k hk h
            omega
        · rw [if_neg (by omega)]
          refine .inr ⟨j, by omega, rfl, h3, fun k hk h => ?_, h5⟩
          rcases Nat.lt_or_ge k n with hl | hl
          · exact h4 k hl h
          · obtain rfl : k = n := by omega
            omega
theorem chF_lo (n : Nat) : -1 ≤ chF left r rk now n ∧ chF left r rk now n < n := by
  rcases chF_spec (left := left) (r := r) (rk := rk) (now := now) n with ⟨h, _⟩ | ⟨j, h1, h, _⟩ <;> omega
end

/-- The rank: by Due, or by what is left. -/
def rkF (ru : Nat) (J : Nat → Nat → Int) (left : Nat → Int) : Nat → Int := fun k => if ru = 0 then J k 2 else left k
/-- What is left, how many pieces there are, and these. -/
structure PSt where
  left : Nat → Int
  m : Nat
  p : Nat → Nat → Int
/-- One unit of a job more. -/
def updK (F : Nat → Nat → Int) (k i : Nat) (x : Int) : Nat → Nat → Int := fun a b => if a = k ∧ b = i then x else F a b
theorem updK_at (F : Nat → Nat → Int) (k i : Nat) (x : Int) : updK F k i x k i = x := by simp [updK]
theorem updK_ne (F : Nat → Nat → Int) {k i a b : Nat} (x : Int) (h : a ≠ k ∨ b ≠ i) : updK F k i x a b = F a b := by
  unfold updK
  rw [if_neg (by omega)]
def pcK (F : Nat → Nat → Int) (m : Nat) (x y z : Int) : Nat → Nat → Int := fun a b => if a = m then (if b = 0 then x else if b = 1 then y else z) else F a b
def pushS (s : PSt) (j now : Int) : PSt :=
  if 0 < s.m ∧ s.p (s.m - 1) 0 = j then ⟨upd s.left j.toNat (s.left j.toNat - 1), s.m, updK s.p (s.m - 1) 2 (s.p (s.m - 1) 2 + 1)⟩
  else ⟨upd s.left j.toNat (s.left j.toNat - 1), s.m + 1, pcK s.p s.m j now (now + 1)⟩
def stp (ru n : Nat) (J : Nat → Nat → Int) (s : PSt) (now : Nat) : PSt :=
  if chF s.left (fun k => J k 1) (rkF ru J s.left) now n < 0 then s else pushS s (chF s.left (fun k => J k 1) (rkF ru J s.left) now n) now
def stF (ru n : Nat) (J : Nat → Nat → Int) : Nat → PSt
  | 0 => ⟨fun k => J k 0, 0, fun _ _ => 0⟩
  | t + 1 => stp ru n J (stF ru n J t) t
/-- The whole plan. -/
def plS (ru n : Nat) (J : Nat → Nat → Int) : PSt := stF ru n J 260
theorem pushS_left (s : PSt) (j now : Int) : (pushS s j now).left = upd s.left j.toNat (s.left j.toNat - 1) := by
  unfold pushS
  split <;> rfl

section
variable {ru n : Nat} {J : Nat → Nat → Int}
theorem okJ_iff {n : Nat} {J : Nat → Nat → Int} : okJ n J = true ↔ (1 ≤ n ∧ n ≤ 8) ∧ ∀ k, k < n → (1 ≤ J k 0 ∧ J k 0 ≤ 20) ∧ (0 ≤ J k 1 ∧ J k 1 ≤ 100) ∧ (0 ≤ J k 2 ∧ J k 2 ≤ 200) ∧ (0 ≤ J k 3 ∧ J k 3 ≤ 20) := by
  unfold okJ
  rw [Bool.and_eq_true, decide_eq_true_iff, allB_iff]
  refine ⟨fun h => ⟨h.1, fun k hk => ?_⟩, fun h => ⟨h.1, fun k hk => ?_⟩⟩
  · have := h.2 k hk
    simp only [okOne, witB, Bool.and_eq_true, decide_eq_true_iff] at this
    omega
  · have := h.2 k hk
    simp only [okOne, witB, Bool.and_eq_true, decide_eq_true_iff]
    omega
/-- What is left: from 0 to the Time, and each unit is one step's. -/
theorem stF_left (h : okJ n J = true) : ∀ t, (∀ k, k < n → 0 ≤ (stF ru n J t).left k ∧ (stF ru n J t).left k ≤ J k 0) ∧ (0 < smT (stF ru n J t).left n → t + smT (stF ru n J t).left n ≤ 100 + smT (fun k => J k 0) n) := by
  have hok := (okJ_iff.1 h).2
  intro t
  induction t with
  | zero =>
    refine ⟨fun k hk => ?_, fun _ => ?_⟩
    · have := hok k hk
      show 0 ≤ J k 0 ∧ J k 0 ≤ J k 0
      omega
    · show ((0 : Nat) : Int) + smT (fun k => J k 0) n ≤ _
      omega
  | succ t ih =>
    rw [stF]
    generalize hs : stF ru n J t = s at *
    obtain ⟨h1, h2⟩ := ih
    unfold stp
    rcases chF_spec (left := s.left) (r := fun k => J k 1) (rk := rkF ru J s.left) (now := (t : Int)) n with ⟨e, hno⟩ | ⟨j, hj, e, ha, -, -⟩
    · rw [e, if_pos (by omega)]
      refine ⟨h1, fun hp => ?_⟩
      have h3 := h2 hp
      have ht : (t : Int) < 100 := by
        rcases Int.lt_or_le (t : Int) 100 with h4 | h4
        · exact h4
        · exfalso
          have hz : ∀ k, k < n → s.left k = 0 := fun k hk => by
            have h5 := hno k hk
            have h6 := hok k hk
            unfold avl at h5
            by_cases h7 : s.left k = 0
            · exact h7
            · simp [h7] at h5
              omega
          have : smT s.left n = smT (fun _ => 0) n := smT_congr hz
          have h0 : ∀ m, smT (fun _ => 0) m = 0 := fun m => by induction m with | zero => rfl | succ m ih => simp [smT, ih]
          rw [h0] at this
          omega
      have h8 : smT s.left n ≤ smT (fun k => J k 0) n := smT_le (fun k hk => (h1 k hk).2)
      push_cast
      omega
    · rw [e, if_neg (by omega), pushS_left]
      simp only [Int.toNat_natCast]
      have hlj := h1 j hj
      have hl0 : s.left j ≠ 0 := fun h0 => by simp [avl, h0] at ha
      have hsum := smT_upd (f := s.left) (j := j) (x := s.left j - 1) (n := n)
      rw [if_pos hj] at hsum
      refine ⟨fun k hk => ?_, fun hp => ?_⟩
      · unfold upd
        by_cases e2 : k = j
        · subst e2
          rw [if_pos rfl]
          omega
        · rw [if_neg e2]
          exact h1 k hk
      · rw [hsum] at hp ⊢
        have := h2 (by omega)
        push_cast
        omega
theorem total_le (h : okJ n J = true) : smT (fun k => J k 0) n ≤ 160 := by
  obtain ⟨⟨h1, h2⟩, hok⟩ := okJ_iff.1 h
  have : ∀ m, m ≤ n → smT (fun k => J k 0) m ≤ 20 * m := by
    intro m
    induction m with
    | zero => intro _; simp [smT]
    | succ m ih =>
      intro hm
      have := ih (by omega)
      have := hok m (by omega)
      rw [smT]
      push_cast
      omega
  have := this n (Nat.le_refl _)
  omega
theorem stF_lt (h : okJ n J = true) {t : Nat} (hp : 0 < smT (stF ru n J t).left n) : t < 260 := by
  have := (stF_left (ru := ru) h t).2 hp
  have := total_le h
  omega
/-- Once nothing is left, nothing turns. -/
theorem stF_stays {t : Nat} (hz : ∀ k, k < n → (stF ru n J t).left k = 0) : ∀ m, stF ru n J (t + m) = stF ru n J t := by
  intro m
  induction m with
  | zero => rfl
  | succ m ih =>
    rw [← Nat.add_assoc, stF, ih]
    unfold stp
    rcases chF_spec (left := (stF ru n J t).left) (r := fun k => J k 1) (rk := rkF ru J (stF ru n J t).left) (now := ((t + m : Nat) : Int)) n with ⟨e, -⟩ | ⟨j, hj, -, ha, -, -⟩
    · rw [e, if_pos (by omega)]
    · simp [avl, hz j hj] at ha
theorem stF_end {t : Nat} (ht : t ≤ 260) (hz : ∀ k, k < n → (stF ru n J t).left k = 0) : stF ru n J t = plS ru n J := by
  have := stF_stays hz (260 - t)
  rw [← this, plS]
  congr 1
  omega
theorem plS_left (h : okJ n J = true) : ∀ k, k < n → (plS ru n J).left k = 0 := by
  refine smT_zero (fun k hk => ((stF_left (ru := ru) h 260).1 k hk).1) ?_
  have h1 := smT_nonneg (n := n) (fun k hk => ((stF_left (ru := ru) h 260).1 k hk).1)
  rcases Int.lt_or_le 0 (smT (stF ru n J 260).left n) with h2 | h2
  · have := stF_lt h h2
    omega
  · exact Int.le_antisymm h2 h1

/-- The pieces: the last one ends now, if its job is not done; nothing waits. -/
structure PInv (n : Nat) (J : Nat → Nat → Int) (s : PSt) (t : Nat) : Prop where
  rng : ∀ a, a < s.m → 0 ≤ s.p a 0 ∧ s.p a 0 < n ∧ 0 ≤ s.p a 1 ∧ s.p a 1 < s.p a 2 ∧ s.p a 2 ≤ t
  rel : ∀ a, a < s.m → J (s.p a 0).toNat 1 ≤ s.p a 1
  last : 0 < s.m → 0 < s.left (s.p (s.m - 1) 0).toNat → s.p (s.m - 1) 2 = t
  m_le : s.m ≤ t
theorem stF_inv (h : okJ n J = true) : ∀ t, PInv n J (stF ru n J t) t := by
  have hok := (okJ_iff.1 h).2
  intro t
  induction t with
  | zero => exact ⟨fun a ha => absurd ha (Nat.not_lt_zero _), fun a ha => absurd ha (Nat.not_lt_zero _), fun ha => absurd ha (Nat.not_lt_zero _), Nat.le_refl _⟩
  | succ t ih =>
    have hL := (stF_left (ru := ru) h t).1
    rw [stF]
    generalize hs : stF ru n J t = s at *
    obtain ⟨h1, h2, h3, h4⟩ := ih
    unfold stp
    rcases chF_spec (left := s.left) (r := fun k => J k 1) (rk := rkF ru J s.left) (now := (t : Int)) n with ⟨e, hno⟩ | ⟨j, hj, e, ha, -, -⟩
    · rw [e, if_pos (by omega)]
      refine ⟨fun a ha => ?_, h2, fun hm hl => ?_, by omega⟩
      · have := h1 a ha
        push_cast
        omega
      · exfalso
        have h5 := h1 (s.m - 1) (by omega)
        have h6 := h2 (s.m - 1) (by omega)
        have h7 := hno (s.p (s.m - 1) 0).toNat (by omega)
        have h8 : s.left (s.p (s.m - 1) 0).toNat ≠ 0 := by omega
        simp [avl, h8] at h7
        omega
    · rw [e, if_neg (by omega)]
      have hrel : J j 1 ≤ (t : Int) := by
        simp [avl] at ha
        exact ha.2
      have hlj : s.left j ≠ 0 := fun h0 => by simp [avl, h0] at ha
      have hlp := hL j hj
      unfold pushS
      by_cases hc : 0 < s.m ∧ s.p (s.m - 1) 0 = (j : Int)
      · rw [if_pos hc]
        have he := h3 hc.1 (by rw [hc.2]; simp only [Int.toNat_natCast]; omega)
        refine ⟨fun a ha' => ?_, fun a ha' => ?_, fun hm hl => ?_, by show s.m ≤ t + 1; omega⟩
        · have h5 := h1 a ha'
          show 0 ≤ updK s.p (s.m - 1) 2 _ a 0 ∧ updK s.p (s.m - 1) 2 _ a 0 < _ ∧ 0 ≤ updK s.p (s.m - 1) 2 _ a 1 ∧ updK s.p (s.m - 1) 2 _ a 1 < updK s.p (s.m - 1) 2 _ a 2 ∧ updK s.p (s.m - 1) 2 _ a 2 ≤ _
          rw [updK_ne _ _ (.inr (by omega)), updK_ne _ _ (.inr (by omega))]
          by_cases e2 : a = s.m - 1
          · subst e2
            rw [updK_at, he]
            push_cast
            omega
          · rw [updK_ne _ _ (.inl e2)]
            push_cast
            omega
        · show J (updK s.p (s.m - 1) 2 _ a 0).toNat 1 ≤ updK s.p (s.m - 1) 2 _ a 1
          rw [updK_ne _ _ (.inr (by omega)), updK_ne _ _ (.inr (by omega))]
          exact h2 a ha'
        · show updK s.p (s.m - 1) 2 _ (s.m - 1) 2 = _
          rw [updK_at, he]
          push_cast
          omega
      · rw [if_neg hc]
        refine ⟨fun a ha' => ?_, fun a ha' => ?_, fun hm hl => ?_, by show s.m + 1 ≤ t + 1; omega⟩
        · show 0 ≤ pcK s.p s.m _ _ _ a 0 ∧ pcK s.p s.m _ _ _ a 0 < _ ∧ 0 ≤ pcK s.p s.m _ _ _ a 1 ∧ pcK s.p s.m _ _ _ a 1 < pcK s.p s.m _ _ _ a 2 ∧ pcK s.p s.m _ _ _ a 2 ≤ _
          have ha' : a < s.m + 1 := ha'
          unfold pcK
          by_cases e2 : a = s.m
          · simp only [if_pos e2]
            simp
            omega
          · simp only [if_neg e2]
            have := h1 a (by omega)
            push_cast
            omega
        · have ha' : a < s.m + 1 := ha'
          show J (pcK s.p s.m _ _ _ a 0).toNat 1 ≤ pcK s.p s.m _ _ _ a 1
          unfold pcK
          by_cases e2 : a = s.m
          · simp only [if_pos e2]
            simp
            exact hrel
          · simp only [if_neg e2]
            exact h2 a (by omega)
        · show pcK s.p s.m _ _ _ (s.m + 1 - 1) 2 = _
          simp [pcK]
end
end Go.Proofs.Ytbgekacfimgkeaa
