/- No group blocks the best committee. -/
import Derived.Test.YtahoolibnpbofaaCw
namespace Go.Proofs.Ytahoolibnpbofaa

/-- How many below n. -/
def cntN (p : Nat → Bool) : Nat → Nat
  | 0 => 0
  | i + 1 => cntN p i + if p i then 1 else 0
theorem cntN_congr {p q : Nat → Bool} : ∀ {n : Nat}, (∀ i, i < n → p i = q i) → cntN p n = cntN q n := by
  intro n
  induction n with
  | zero => intro _; rfl
  | succ n ih =>
    intro h
    simp only [cntN]
    rw [ih (fun i hi => h i (by omega)), h n (by omega)]
theorem pcN_cnt (s : Nat) : pcN s = cntN (bitN s) 9 := by
  have key : ∀ i, (if bitN s i = true then 1 else 0) = s / 2 ^ i % 2 := fun i => by
    unfold bitN
    rcases Nat.mod_two_eq_zero_or_one (s / 2 ^ i) with h | h <;> rw [h] <;> rfl
  simp only [cntN, key]
  simp only [pcN, Nat.reducePow, Nat.div_one, Nat.zero_add, Nat.pow_zero, Nat.pow_one]
theorem cntN_set (p : Nat → Bool) (w : Nat) (v : Bool) : ∀ n, w < n → cntN (fun a => if a = w then v else p a) n + (if p w then 1 else 0) = cntN p n + if v then 1 else 0 := by
  intro n
  induction n with
  | zero => intro h; omega
  | succ n ih =>
    intro h
    by_cases e : n = w
    · subst e
      have e1 : cntN (fun a => if a = n then v else p a) n = cntN p n := cntN_congr (fun i hi => by rw [if_neg (by omega)])
      have e2 : (if n = n then v else p n) = v := if_pos rfl
      show cntN (fun a => if a = n then v else p a) n + (if (if n = n then v else p n) = true then 1 else 0) + (if p n = true then 1 else 0) = cntN p n + (if p n = true then 1 else 0) + (if v = true then 1 else 0)
      simp only [e1, if_true]
      omega
    · have e2 : (if n = w then v else p n) = p n := if_neg e
      have := ih (by omega)
      show cntN (fun a => if a = w then v else p a) n + (if (if n = w then v else p n) = true then 1 else 0) + (if p w = true then 1 else 0) = cntN p n + (if p n = true then 1 else 0) + (if v = true then 1 else 0)
      simp only [e2]
      omega
/-- The number with these bits. -/
def nbN (p : Nat → Bool) : Nat → Nat
  | 0 => 0
  | i + 1 => if p i then nbN p i + 2 ^ i else nbN p i
theorem nbN_lt (p : Nat → Bool) : ∀ n, nbN p n < 2 ^ n := by
  intro n
  induction n with
  | zero => simp [nbN]
  | succ n ih =>
    simp only [nbN, Nat.pow_succ]
    split <;> omega
theorem nbN_bit (p : Nat → Bool) : ∀ n, n ≤ 9 → ∀ i, i < 9 → bitN (nbN p n) i = (decide (i < n) && p i) := by
  intro n
  induction n with
  | zero =>
    intro _ i hi
    rw [decide_eq_false (by omega), Bool.false_and]
    exact bit_low 0 (by omega) 0 (by decide) i hi (by omega)
  | succ n ih =>
    intro hn i hi
    have h1 := ih (by omega) i hi
    have hlt := nbN_lt p n
    simp only [nbN]
    cases hw : p n with
    | true =>
      rw [if_pos rfl, bit_add n (by omega) _ hlt i hi, h1]
      by_cases e : i = n
      · subst e
        simp [hw]
      · rw [decide_eq_false e, Bool.false_or]
        congr 1
        rw [decide_eq_decide]
        omega
    | false =>
      rw [if_neg (by simp), h1]
      by_cases e : i = n
      · subst e
        rw [hw, Bool.and_false, Bool.and_false]
      · congr 1
        rw [decide_eq_decide]
        omega
theorem bitN_zero (a : Nat) : bitN 0 a = false := by
  rw [bitN_test, Nat.zero_testBit]
/-- Sums. -/
def sumN (F : Nat → Nat) : Nat → Nat
  | 0 => 0
  | i + 1 => sumN F i + F i
theorem sumN_le {F G : Nat → Nat} : ∀ {n : Nat}, (∀ i, i < n → F i ≤ G i) → sumN F n ≤ sumN G n := by
  intro n
  induction n with
  | zero => intro _; exact Nat.le_refl _
  | succ n ih =>
    intro h
    have h1 := ih (fun i hi => h i (by omega))
    have h2 := h n (by omega)
    simp only [sumN]
    omega
theorem sumN_add (F G : Nat → Nat) : ∀ n, sumN (fun i => F i + G i) n = sumN F n + sumN G n := by
  intro n
  induction n with
  | zero => rfl
  | succ n ih => simp only [sumN, ih]; omega
theorem sumN_swap (F : Nat → Nat → Nat) (m : Nat) : ∀ n, sumN (fun i => sumN (fun j => F i j) m) n = sumN (fun j => sumN (fun i => F i j) n) m := by
  intro n
  induction n with
  | zero =>
    have key : ∀ m, sumN (fun j => sumN (fun i => F i j) 0) m = 0 := by
      intro m
      induction m with
      | zero => rfl
      | succ m ih => simp only [sumN] at ih ⊢; omega
    rw [key m]
    rfl
  | succ n ih =>
    have h1 : sumN (fun i => sumN (fun j => F i j) m) (n + 1) = sumN (fun i => sumN (fun j => F i j) m) n + sumN (fun j => F n j) m := rfl
    rw [h1, ih, ← sumN_add]
    rfl
theorem sumN_cnt (p : Nat → Bool) (K : Nat) : ∀ n, sumN (fun i => if p i then K else 0) n = cntN p n * K := by
  intro n
  induction n with
  | zero => simp [sumN, cntN]
  | succ n ih =>
    simp only [sumN, cntN, ih, Nat.add_mul]
    split <;> simp
theorem scN_sum (g : Nat → Nat) (s : Nat) : ∀ n, scN g s n = sumN (fun i => hsN (pcN (g i &&& s))) n := by
  intro n
  induction n with
  | zero => rfl
  | succ n ih => simp only [scN, sumN, ih]
theorem hsN_mono : ∀ a b, a ≤ b → hsN a ≤ hsN b := by
  intro a b h
  induction h with
  | refl => exact Nat.le_refl _
  | step _ ih => exact Nat.le_trans ih (Nat.le_add_right _ _)
theorem cmF_best {g : Nat → Nat} {n k : Nat} : ∀ t b, cmF g n k t = some b → pcN b = k ∧ ∀ x, x < t → pcN x = k → scN g x n ≤ scN g b n := by
  intro t
  induction t with
  | zero => intro b h; cases h
  | succ t ih =>
    intro b h
    simp only [cmF] at h
    cases hc : cmF g n k t with
    | none =>
      rw [hc] at h
      simp only at h
      split at h
      · rename_i hk
        injection h with h
        subst h
        refine ⟨hk, fun x hx hxk => ?_⟩
        rcases Nat.lt_or_ge x t with hl | hl
        · obtain ⟨b', hb'⟩ := cmF_some g n k hxk t hl
          rw [hc] at hb'
          cases hb'
        · obtain rfl : x = t := by omega
          exact Nat.le_refl _
      · cases h
    | some b' =>
      rw [hc] at h
      simp only at h
      obtain ⟨j1, j2⟩ := ih b' hc
      split at h
      · rename_i hk
        injection h with h
        subst h
        refine ⟨hk.1, fun x hx hxk => ?_⟩
        rcases Nat.lt_or_ge x t with hl | hl
        · have := j2 x hl hxk
          omega
        · obtain rfl : x = t := by omega
          exact Nat.le_refl _
      · rename_i hk
        injection h with h
        subst h
        refine ⟨j1, fun x hx hxk => ?_⟩
        rcases Nat.lt_or_ge x t with hl | hl
        · exact j2 x hl hxk
        · obtain rfl : x = t := by omega
          apply Classical.byContradiction
          intro hh
          exact hk ⟨hxk, by omega⟩
/-- No group blocks the best committee. -/
theorem best_free {g : Nat → Nat} {c k n W x : Nat} (hc : c ≤ 8) (hn : n ≤ 9) (hW : W < 2 ^ c) (hk : pcN W = k) (hb : ∀ t, t < 2 ^ c → pcN t = k → scN g t n ≤ scN g W n) (hx : x < c) (hG : n ≤ pcN (woN g x W n) * k) : pcN (woN g x W n) = 0 := by
  apply Classical.byContradiction
  intro hpos
  -- the group
  have hGc : pcN (woN g x W n) = cntN (woC g x W) n := by
    rw [pcN_cnt]
    have h1 : ∀ m, m ≤ 9 → cntN (bitN (woN g x W n)) m = cntN (fun i => decide (i < n) && woC g x W i) m := fun m hm => cntN_congr (fun i hi => woN_bit g x W n hn i (by omega))
    rw [h1 9 (by omega)]
    have h2 : ∀ m, n + m ≤ 9 → cntN (fun i => decide (i < n) && woC g x W i) (n + m) = cntN (woC g x W) n := by
      intro m
      induction m with
      | zero =>
        intro _
        refine cntN_congr (fun i hi => ?_)
        have hi' : i < n := hi
        rw [decide_eq_true hi', Bool.true_and]
      | succ m ih =>
        intro hm
        have e2 : (decide (n + m < n) && woC g x W (n + m)) = false := by rw [decide_eq_false (by omega), Bool.false_and]
        show cntN (fun i => decide (i < n) && woC g x W i) (n + m) + (if (decide (n + m < n) && woC g x W (n + m)) = true then 1 else 0) = _
        simp only [e2]
        rw [ih (by omega)]
        rfl
    have := h2 (9 - n) (by omega)
    rwa [show n + (9 - n) = 9 by omega] at this
  -- someone in it, so x is not in W
  have hxW : bitN W x = false := by
    cases hbx : bitN W x with
    | false => rfl
    | true =>
      exfalso
      apply hpos
      rw [hGc]
      have : ∀ m, cntN (woC g x W) m = 0 := by
        intro m
        induction m with
        | zero => rfl
        | succ m ih =>
          have e2 : woC g x W m = false := by
            cases hw : woC g x W m with
            | false => rfl
            | true =>
              exfalso
              unfold woC at hw
              rw [Bool.and_eq_true, decide_eq_true_iff] at hw
              have hz := bitN_and (g m) W x
              rw [hw.2, hw.1, hbx, bitN_zero] at hz
              cases hz
          simp only [cntN, ih, e2]
          rfl
      exact this n
  -- W with x in w's place
  let p : Nat → Nat → Bool := fun w a => if a = w then false else if a = x then true else bitN W a
  have hloss : ∀ w, w < 9 → bitN W w = true → cntN (woC g x W) n * 840 ≤ sumN (fun i => if bitN (g i) w then 840 / pcN (g i &&& W) else 0) n := by
    intro w hw hbw
    have hwc : w < c := by
      rcases Nat.lt_or_ge w c with hl | hl
      · exact hl
      · rw [bit_low c (by omega) W hW w hw hl] at hbw
        cases hbw
    have hwx : w ≠ x := fun e => by rw [e, hxW] at hbw; cases hbw
    have hbits : ∀ a, a < 9 → bitN (nbN (p w) c) a = p w a := by
      intro a ha
      rw [nbN_bit (p w) c (by omega) a ha]
      rcases Nat.lt_or_ge a c with hl | hl
      · rw [decide_eq_true hl, Bool.true_and]
      · rw [decide_eq_false (by omega), Bool.false_and]
        show false = (if a = w then false else if a = x then true else bitN W a)
        rw [if_neg (by omega), if_neg (by omega), bit_low c (by omega) W hW a ha hl]
    have hcount : ∀ q : Nat → Bool, cntN (fun a => q a && p w a) 9 + (if q w then 1 else 0) = cntN (fun a => q a && bitN W a) 9 + (if q x then 1 else 0) := by
      intro q
      have h1 : cntN (fun a => if a = w then false else (q a && (if a = x then true else bitN W a))) 9 + (if (q w && (if w = x then true else bitN W w)) = true then 1 else 0) = cntN (fun a => q a && (if a = x then true else bitN W a)) 9 + 0 := cntN_set (fun a => q a && (if a = x then true else bitN W a)) w false 9 hw
      have h2 : cntN (fun a => if a = x then q x else (q a && bitN W a)) 9 + (if (q x && bitN W x) = true then 1 else 0) = cntN (fun a => q a && bitN W a) 9 + (if q x = true then 1 else 0) := cntN_set (fun a => q a && bitN W a) x (q x) 9 (by omega)
      have e1 : cntN (fun a => q a && p w a) 9 = cntN (fun a => if a = w then false else (q a && (if a = x then true else bitN W a))) 9 := cntN_congr (fun a _ => by
        show (q a && (if a = w then false else if a = x then true else bitN W a)) = _
        by_cases e : a = w
        · rw [if_pos e, if_pos e, Bool.and_false]
        · rw [if_neg e, if_neg e])
      have e2 : cntN (fun a => q a && (if a = x then true else bitN W a)) 9 = cntN (fun a => if a = x then q x else (q a && bitN W a)) 9 := cntN_congr (fun a _ => by
        by_cases e : a = x
        · rw [if_pos e, if_pos e, Bool.and_true, e]
        · rw [if_neg e, if_neg e])
      rw [e1]
      rw [e2] at h1
      have e3 : (q w && (if w = x then true else bitN W w)) = q w := by rw [if_neg hwx, hbw, Bool.and_true]
      have e4 : (q x && bitN W x) = false := by rw [hxW, Bool.and_false]
      rw [e3] at h1
      rw [e4] at h2
      simp only [Bool.false_eq_true, if_false] at h2
      omega
    have hpc : pcN (nbN (p w) c) = k := by
      have h1 : cntN (p w) 9 + 1 = cntN (bitN W) 9 + 1 := hcount (fun _ => true)
      rw [← hk, pcN_cnt, pcN_cnt, cntN_congr hbits]
      omega
    have hsc := hb _ (nbN_lt (p w) c) hpc
    rw [scN_sum, scN_sum] at hsc
    have hterm : ∀ i, i < n → hsN (pcN (g i &&& W)) + (if woC g x W i then 840 else 0) ≤ hsN (pcN (g i &&& nbN (p w) c)) + (if bitN (g i) w then 840 / pcN (g i &&& W) else 0) := by
      intro i hi
      have h1 := hcount (bitN (g i))
      have e1 : pcN (g i &&& W) = cntN (fun a => bitN (g i) a && bitN W a) 9 := by rw [pcN_cnt]; exact cntN_congr (fun a _ => bitN_and _ _ _)
      have e2 : pcN (g i &&& nbN (p w) c) = cntN (fun a => bitN (g i) a && p w a) 9 := by rw [pcN_cnt]; exact cntN_congr (fun a ha => by rw [bitN_and, hbits a ha])
      rw [← e1, ← e2] at h1
      cases hwo : woC g x W i with
      | true =>
        unfold woC at hwo
        rw [Bool.and_eq_true, decide_eq_true_iff] at hwo
        have hz : pcN (g i &&& W) = 0 := by rw [hwo.2]; rfl
        have hgw : bitN (g i) w = false := by
          have := bitN_and (g i) W w
          rw [hwo.2, bitN_zero, hbw, Bool.and_true] at this
          exact this.symm
        rw [hz, hgw, hwo.1] at h1
        have hm : pcN (g i &&& nbN (p w) c) = 1 := by simpa using h1
        rw [hz, hm, hgw]
        decide
      | false =>
        have hm : pcN (g i &&& W) ≤ pcN (g i &&& nbN (p w) c) + (if bitN (g i) w then 1 else 0) := by
          by_cases hq : bitN (g i) x = true
          · rw [if_pos hq] at h1; omega
          · rw [if_neg hq] at h1; omega
        generalize pcN (g i &&& W) = m at *
        generalize pcN (g i &&& nbN (p w) c) = m' at *
        cases hgw : bitN (g i) w with
        | false =>
          rw [hgw] at hm
          have := hsN_mono m m' (by simpa using hm)
          simp
          omega
        | true =>
          rw [hgw] at hm
          simp only [if_true] at hm
          rcases Nat.eq_zero_or_pos m with h0 | h0
          · rw [h0]; simp [hsN]
          · obtain ⟨m0, rfl⟩ : ∃ m0, m = m0 + 1 := ⟨m - 1, by omega⟩
            have := hsN_mono m0 m' (by omega)
            simp [hsN]
            omega
    have hs := sumN_le hterm
    rw [sumN_add, sumN_add, sumN_cnt] at hs
    omega
  -- count twice
  have hA : cntN (bitN W) 9 * (cntN (woC g x W) n * 840) ≤ sumN (fun w => if bitN W w then sumN (fun i => if bitN (g i) w then 840 / pcN (g i &&& W) else 0) n else 0) 9 := by
    rw [← sumN_cnt]
    refine sumN_le (fun w hw => ?_)
    by_cases hbw : bitN W w = true
    · rw [if_pos hbw, if_pos hbw]
      exact hloss w hw hbw
    · rw [if_neg hbw]
      exact Nat.zero_le _
  have hB : sumN (fun w => if bitN W w then sumN (fun i => if bitN (g i) w then 840 / pcN (g i &&& W) else 0) n else 0) 9 = sumN (fun w => sumN (fun i => if bitN W w && bitN (g i) w then 840 / pcN (g i &&& W) else 0) n) 9 := by
    have key : ∀ m, sumN (fun w => if bitN W w then sumN (fun i => if bitN (g i) w then 840 / pcN (g i &&& W) else 0) n else 0) m = sumN (fun w => sumN (fun i => if bitN W w && bitN (g i) w then 840 / pcN (g i &&& W) else 0) n) m := by
      intro m
      induction m with
      | zero => rfl
      | succ m ih =>
        simp only [sumN, ih]
        congr 1
        cases hbw : bitN W m with
        | true => simp
        | false =>
          simp only [Bool.false_and]
          have : ∀ q, sumN (fun i => if false = true then 840 / pcN (g i &&& W) else 0) q = 0 := by
            intro q
            induction q with
            | zero => rfl
            | succ q ihq => simp only [sumN, ihq]; simp
          rw [this n]
          simp
    exact key 9
  have hC : sumN (fun w => sumN (fun i => if bitN W w && bitN (g i) w then 840 / pcN (g i &&& W) else 0) n) 9 + cntN (woC g x W) n * 840 ≤ n * 840 := by
    rw [sumN_swap, ← sumN_cnt, ← sumN_add]
    have hone : n * 840 = sumN (fun _ => 840) n := by
      have key : ∀ m, sumN (fun _ => 840) m = m * 840 := by
        intro m
        induction m with
        | zero => rfl
        | succ m ih => simp only [sumN, ih]; omega
      exact (key n).symm
    rw [hone]
    refine sumN_le (fun i hi => ?_)
    rw [sumN_cnt]
    have e1 : cntN (fun w => bitN W w && bitN (g i) w) 9 = pcN (g i &&& W) := by
      rw [pcN_cnt]
      exact cntN_congr (fun a _ => by rw [bitN_and, Bool.and_comm])
    rw [e1]
    cases hwo : woC g x W i with
    | true =>
      unfold woC at hwo
      rw [Bool.and_eq_true, decide_eq_true_iff] at hwo
      have hz : pcN (g i &&& W) = 0 := by rw [hwo.2]; rfl
      rw [hz]
      simp
    | false =>
      have := Nat.mul_div_le 840 (pcN (g i &&& W))
      simpa using this
  rw [← pcN_cnt, hk] at hA
  rw [hB] at hA
  rw [hGc] at hG hpos
  generalize cntN (woC g x W) n = G at *
  have e : k * (G * 840) = G * k * 840 := by rw [← Nat.mul_assoc, Nat.mul_comm k G]
  have h1 : n * 840 ≤ G * k * 840 := Nat.mul_le_mul_right _ hG
  omega
end Go.Proofs.Ytahoolibnpbofaa
