/- Committees and groups, plain. -/
import Derived.Test.YtjomkbdelgnkcaaBs
namespace Go.Proofs.Ytjomkbdelgnkcaa
open Go.RowKit

/-- The score of m in common; of a committee, over n approvals. -/
def hsN : Nat → Nat
  | 0 => 0
  | m + 1 => hsN m + 840 / (m + 1)
def scN (g : Nat → Nat) (set : Nat) : Nat → Nat
  | 0 => 0
  | i + 1 => scN g set i + hsN (pcN (g i &&& set))
theorem hsN_bd : ∀ m, m ≤ 9 → hsN m ≤ 7560 := by decide
theorem pcN_bd (s : Nat) : pcN s ≤ 9 := by unfold pcN; omega
theorem scN_bd (g : Nat → Nat) (set : Nat) : ∀ n, scN g set n ≤ n * 7560 := by
  intro n
  induction n with
  | zero => simp [scN]
  | succ n ih =>
    have := hsN_bd _ (pcN_bd (g n &&& set))
    simp only [scN, Nat.add_mul]
    omega
/-- The first committee below t with the greatest score. -/
def cmF (g : Nat → Nat) (n k : Nat) : Nat → Option Nat
  | 0 => none
  | t + 1 => match cmF g n k t with
    | none => if pcN t = k then some t else none
    | some b => if pcN t = k ∧ scN g b n < scN g t n then some t else some b
theorem cmF_lt (g : Nat → Nat) (n k : Nat) : ∀ t b, cmF g n k t = some b → b < t := by
  intro t
  induction t with
  | zero => intro b h; cases h
  | succ t ih =>
    intro b h
    simp only [cmF] at h
    cases hc : cmF g n k t with
    | none =>
      rw [hc] at h
      simp only at h
      split at h
      · injection h with h; omega
      · cases h
    | some b' =>
      rw [hc] at h
      simp only at h
      have := ih b' hc
      split at h
      · injection h with h; omega
      · injection h with h; omega
theorem cmF_some (g : Nat → Nat) (n k : Nat) {t0 : Nat} (h0 : pcN t0 = k) : ∀ t, t0 < t → ∃ b, cmF g n k t = some b := by
  intro t
  induction t with
  | zero => intro h; omega
  | succ t ih =>
    intro h
    simp only [cmF]
    cases hc : cmF g n k t with
    | none =>
      simp only
      rcases Nat.lt_or_ge t0 t with hl | hl
      · obtain ⟨b, hb⟩ := ih hl
        rw [hc] at hb
        cases hb
      · obtain rfl : t0 = t := by omega
        exact ⟨t0, by rw [if_pos h0]⟩
    | some b =>
      simp only
      split
      · exact ⟨_, rfl⟩
      · exact ⟨_, rfl⟩
theorem pc_all : ∀ c, c < 9 → ∀ k, k ≤ c → pcN (2 ^ k - 1) = k ∧ 2 ^ k - 1 < 2 ^ c := by decide +kernel
/-- All who have a, and nobody of cm. -/
def woC (g : Nat → Nat) (a cm i : Nat) : Bool := bitN (g i) a && decide (g i &&& cm = 0)
def woN (g : Nat → Nat) (a cm : Nat) : Nat → Nat
  | 0 => 0
  | i + 1 => if woC g a cm i then woN g a cm i + 2 ^ i else woN g a cm i
theorem woN_lt (g : Nat → Nat) (a cm : Nat) : ∀ n, woN g a cm n < 2 ^ n := by
  intro n
  induction n with
  | zero => simp [woN]
  | succ n ih =>
    simp only [woN, Nat.pow_succ]
    split <;> omega
theorem bit_add : ∀ n, n < 9 → ∀ x, x < 2 ^ n → ∀ i, i < 9 → bitN (x + 2 ^ n) i = (decide (i = n) || bitN x i) := by decide +kernel
theorem bit_low : ∀ n, n < 10 → ∀ x, x < 2 ^ n → ∀ i, i < 9 → n ≤ i → bitN x i = false := by decide +kernel
theorem woN_bit (g : Nat → Nat) (a cm : Nat) : ∀ n, n ≤ 9 → ∀ i, i < 9 → bitN (woN g a cm n) i = (decide (i < n) && woC g a cm i) := by
  intro n
  induction n with
  | zero =>
    intro _ i hi
    rw [decide_eq_false (by omega), Bool.false_and]
    exact bit_low 0 (by omega) 0 (by decide) i hi (by omega)
  | succ n ih =>
    intro hn i hi
    have h1 := ih (by omega) i hi
    have hlt := woN_lt g a cm n
    simp only [woN]
    cases hw : woC g a cm n with
    | true =>
      rw [if_pos rfl, bit_add n (by omega) _ hlt i hi, h1]
      by_cases e : i = n
      · subst e
        simp [hw]
      · rw [decide_eq_false e, Bool.false_or]
        congr 1
        rw [decide_eq_decide]
        omega
    | false =>
      rw [if_neg (by simp), h1]
      by_cases e : i = n
      · subst e
        rw [hw, Bool.and_false, Bool.and_false]
      · congr 1
        rw [decide_eq_decide]
        omega
def pcK : Nat → Nat → Nat
  | 0, _ => 0
  | m + 1, s => s % 2 + pcK m (s / 2)
theorem pcN_K (s : Nat) : pcN s = pcK 9 s := by
  simp only [pcK, pcN, Nat.div_div_eq_div_mul, Nat.reduceMul, Nat.add_zero, Nat.add_assoc]
theorem bitN_half (s i : Nat) : bitN (s / 2) i = bitN s (i + 1) := by
  unfold bitN
  rw [Nat.div_div_eq_div_mul, Nat.pow_succ, Nat.mul_comm 2]
theorem bits_leK : ∀ m s t, s < 2 ^ m → t < 2 ^ m → (∀ i, i < m → bitN s i = true → bitN t i = true) → pcK m s ≤ pcK m t ∧ (pcK m t ≤ pcK m s → s = t) := by
  intro m
  induction m with
  | zero =>
    intro s t hs ht _
    exact ⟨Nat.le_refl _, fun _ => by simp at hs ht; omega⟩
  | succ m ih =>
    intro s t hs ht h
    rw [Nat.pow_succ] at hs ht
    obtain ⟨i1, i2⟩ := ih (s / 2) (t / 2) (by omega) (by omega) (fun i hi hb => by
      rw [bitN_half] at hb ⊢
      exact h (i + 1) (by omega) hb)
    have h0 := h 0 (by omega)
    unfold bitN at h0
    rw [Nat.pow_zero, Nat.div_one, Nat.div_one, decide_eq_true_iff, decide_eq_true_iff] at h0
    simp only [pcK]
    refine ⟨by omega, fun hh => ?_⟩
    have := i2 (by omega)
    omega
theorem bits_le {s t : Nat} (hs : s < 512) (ht : t < 512) (h : ∀ i, i < 9 → bitN s i = true → bitN t i = true) : pcN s ≤ pcN t ∧ (pcN t ≤ pcN s → s = t) := by
  rw [pcN_K, pcN_K]
  exact bits_leK 9 s t (by omega) (by omega) h
/-- Group gr blocks cm. -/
structure BlkG (g : Nat → Nat) (c k n cm gr : Nat) : Prop where
  pos : 0 < gr
  who : ∀ i, i < n → bitN gr i = true → g i &&& cm = 0
  com : ∃ a, a < c ∧ ∀ i, i < n → bitN gr i = true → bitN (g i) a = true
  big : n ≤ pcN gr * k
theorem blk_wo {g : Nat → Nat} {c k n cm gr : Nat} (hn : n ≤ 9) (hg : gr < 2 ^ n) (h : BlkG g c k n cm gr) : ∃ a, a < c ∧ pcN gr ≤ pcN (woN g a cm n) ∧ (pcN (woN g a cm n) ≤ pcN gr → gr = woN g a cm n) := by
  obtain ⟨a, ha, hc⟩ := h.com
  have h512 : 2 ^ n ≤ 2 ^ 9 := Nat.pow_le_pow_right (by omega) hn
  have hw := woN_lt g a cm n
  have := bits_le (s := gr) (t := woN g a cm n) (by omega) (by omega) (fun i hi hb => by
    rw [woN_bit g a cm n hn i hi]
    have hin : i < n := by
      rcases Nat.lt_or_ge i n with hl | hl
      · exact hl
      · rw [bit_low n (by omega) gr hg i hi hl] at hb
        cases hb
    unfold woC
    rw [decide_eq_true hin, hc i hin hb, decide_eq_true (h.who i hin hb)]
    rfl)
  exact ⟨a, ha, this⟩
theorem pc_pos : ∀ s, s < 512 → (0 < pcN s ↔ 0 < s) := by decide +kernel
theorem wo_blk {g : Nat → Nat} {c k n cm a : Nat} (hn1 : 1 ≤ n) (hn : n ≤ 9) (ha : a < c) (hb : n ≤ pcN (woN g a cm n) * k) : BlkG g c k n cm (woN g a cm n) := by
  have h512 : 2 ^ n ≤ 2 ^ 9 := Nat.pow_le_pow_right (by omega) hn
  have hw := woN_lt g a cm n
  refine ⟨?_, fun i hi hbit => ?_, ⟨a, ha, fun i hi hbit => ?_⟩, hb⟩
  · refine (pc_pos _ (by omega)).1 ?_
    rcases Nat.eq_zero_or_pos (pcN (woN g a cm n)) with h0 | h0
    · rw [h0, Nat.zero_mul] at hb; omega
    · exact h0
  · rw [woN_bit g a cm n hn i (by omega)] at hbit
    unfold woC at hbit
    simp only [Bool.and_eq_true, decide_eq_true_iff] at hbit
    exact hbit.2.2
  · rw [woN_bit g a cm n hn i (by omega)] at hbit
    unfold woC at hbit
    simp only [Bool.and_eq_true, decide_eq_true_iff] at hbit
    exact hbit.2.1
/-- What the program keeps after a candidates. -/
def gpF (g : Nat → Nat) (k n cm : Nat) : Nat → Nat × Nat
  | 0 => (0, 0)
  | a + 1 =>
    let r := gpF g k n cm a
    let s := woN g a cm n
    if n ≤ pcN s * k ∧ (r.2 < pcN s ∨ (pcN s = r.2 ∧ s < r.1)) then (s, pcN s) else r
structure GpI (g : Nat → Nat) (k n cm a : Nat) (r : Nat × Nat) : Prop where
  fst : r = (0, 0) ∨ ∃ x, x < a ∧ r.1 = woN g x cm n ∧ r.2 = pcN r.1 ∧ n ≤ pcN r.1 * k
  mx : ∀ x, x < a → n ≤ pcN (woN g x cm n) * k → pcN (woN g x cm n) ≤ r.2 ∧ (pcN (woN g x cm n) = r.2 → r.1 ≤ woN g x cm n)
theorem gpF_inv (g : Nat → Nat) (k n cm : Nat) : ∀ a, GpI g k n cm a (gpF g k n cm a) := by
  intro a
  induction a with
  | zero => exact ⟨.inl rfl, fun x hx => absurd hx (by omega)⟩
  | succ a ih =>
    simp only [gpF]
    generalize gpF g k n cm a = r at *
    split
    · rename_i hc
      refine ⟨.inr ⟨a, by omega, rfl, rfl, hc.1⟩, fun x hx hq => ?_⟩
      show pcN (woN g x cm n) ≤ pcN (woN g a cm n) ∧ (pcN (woN g x cm n) = pcN (woN g a cm n) → woN g a cm n ≤ woN g x cm n)
      rcases Nat.lt_or_ge x a with hl | hl
      · have := ih.mx x hl hq
        rcases hc.2 with h2 | ⟨h2, h3⟩
        · exact ⟨by omega, fun e => by omega⟩
        · refine ⟨by omega, fun e => ?_⟩
          have := this.2 (by omega)
          omega
      · obtain rfl : x = a := by omega
        exact ⟨Nat.le_refl _, fun _ => Nat.le_refl _⟩
    · rename_i hc
      refine ⟨?_, fun x hx hq => ?_⟩
      · rcases ih.fst with h | ⟨x, h1, h2⟩
        · exact .inl h
        · exact .inr ⟨x, by omega, h2⟩
      · rcases Nat.lt_or_ge x a with hl | hl
        · exact ih.mx x hl hq
        · obtain rfl : x = a := by omega
          constructor
          · apply Classical.byContradiction
            intro h
            exact hc ⟨hq, .inl (by omega)⟩
          · intro e
            apply Classical.byContradiction
            intro h
            exact hc ⟨hq, .inr ⟨e, by omega⟩⟩
/-- The first greatest group that blocks, of those below t; 0: there is none. -/
structure GrI (g : Nat → Nat) (c k n cm t b : Nat) : Prop where
  ok : b = 0 ∨ (b < t ∧ BlkG g c k n cm b)
  mx : ∀ x, x < t → BlkG g c k n cm x → pcN x ≤ pcN b ∧ (pcN x = pcN b → b ≤ x)
theorem group_same {g : Nat → Nat} {c k n cm b : Nat} (hn1 : 1 ≤ n) (hn : n ≤ 9) (h : GrI g c k n cm (2 ^ n) b) : b = (gpF g k n cm c).1 ∧ (gpF g k n cm c).2 = pcN b := by
  have hI := gpF_inv g k n cm c
  generalize gpF g k n cm c = r at *
  have h512 : 2 ^ n ≤ 2 ^ 9 := Nat.pow_le_pow_right (by omega) hn
  have hp : 0 < 2 ^ n := Nat.pow_pos (by omega)
  rcases hI.fst with h0 | ⟨x, hx, e1, e2, e3⟩
  · have e1 : r.1 = 0 := by rw [h0]
    have e2 : r.2 = 0 := by rw [h0]
    rcases h.ok with hb | ⟨hb, hB⟩
    · rw [e1, e2, hb]
      exact ⟨rfl, rfl⟩
    · obtain ⟨a, ha, k1, k2⟩ := blk_wo hn hb hB
      have hq : n ≤ pcN (woN g a cm n) * k := Nat.le_trans hB.big (Nat.mul_le_mul_right k k1)
      have := (hI.mx a ha hq).1
      have h3 := (pc_pos b (by omega)).2 hB.pos
      omega
  · have hw := woN_lt g x cm n
    have hBx := wo_blk (c := c) hn1 hn hx (by rw [← e1]; exact e3)
    obtain ⟨m1, m2⟩ := h.mx _ hw hBx
    have hxp := (pc_pos (woN g x cm n) (by omega)).2 hBx.pos
    rcases h.ok with hb | ⟨hb, hB⟩
    · rw [hb] at m1
      have : pcN 0 = 0 := by decide
      omega
    · obtain ⟨a, ha, k1, k2⟩ := blk_wo hn hb hB
      have hq : n ≤ pcN (woN g a cm n) * k := Nat.le_trans hB.big (Nat.mul_le_mul_right k k1)
      obtain ⟨j1, j2⟩ := hI.mx a ha hq
      rw [e2, e1] at j1
      have hbw : b = woN g a cm n := k2 (by omega)
      have j3 := j2 (by rw [e2, e1]; omega)
      have m3 := m2 (by rw [hbw]; omega)
      rw [e1] at j3
      refine ⟨by rw [e1]; omega, by rw [e2, e1]; omega⟩
end Go.Proofs.Ytjomkbdelgnkcaa
