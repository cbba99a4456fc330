/- Orders and sets on time: plain words. -/
import Derived.Test.YtbgekacfimgkeaaJh
import Derived.Test.YtbgekacfimgkeaaQn
namespace Go.Proofs.Ytbgekacfimgkeaa
open Go.RowKit

/-- Those of the first k that are in the set, and those that are not. -/
def inL (s k : Nat) : List Int := ((List.range k).filter (btN s)).map fun (j : Nat) => (j : Int)
def outL (s k : Nat) : List Int := ((List.range k).filter (fun j => !btN s j)).map fun (j : Nat) => (j : Int)
theorem inL_succ (s k : Nat) : inL s (k + 1) = if btN s k = true then inL s k ++ [(k : Int)] else inL s k := by
  unfold inL
  rw [List.range_succ, List.filter_append]
  cases h : btN s k <;> simp [h]
theorem outL_succ (s k : Nat) : outL s (k + 1) = if btN s k = true then outL s k else outL s k ++ [(k : Int)] := by
  unfold outL
  rw [List.range_succ, List.filter_append]
  cases h : btN s k <;> simp [h]
theorem in_out (s k : Nat) : (inL s k ++ outL s k).Perm (lst k (fun j => (j : Int))) := by
  unfold inL outL
  rw [← List.map_append]
  exact (List.filter_append_perm (btN s) (List.range k)).map _
theorem inL_mem {s k : Nat} {x : Int} (h : x ∈ inL s k) : ∃ j : Nat, j < k ∧ x = (j : Int) ∧ btN s j = true := by
  unfold inL at h
  obtain ⟨j, hj, e⟩ := List.mem_map.1 h
  obtain ⟨h1, h2⟩ := List.mem_filter.1 hj
  exact ⟨j, List.mem_range.1 h1, e.symm, h2⟩
theorem inL_len (s : Nat) : ∀ k, ((inL s k).length : Int) = ctS s k := by
  intro k
  induction k with
  | zero => rfl
  | succ k ih =>
    have e : ctS s (k + 1) = ctS s k + if btN s k = true then 1 else 0 := rfl
    rw [inL_succ, e]
    cases h : btN s k <;> simp [ih]
theorem inL_sum (s : Nat) (g : Nat → Int) : ∀ k, suL ((inL s k).map fun x => g x.toNat) = smT (fun j => if btN s j = true then g j else 0) k := by
  intro k
  induction k with
  | zero => rfl
  | succ k ih =>
    rw [inL_succ, smT, ← ih]
    cases h : btN s k
    · simp
    · simp [suL_append, suL]
/-- The times of the first i + 1 of those of the set, in the order of Due. -/
theorem in_time {n : Nat} {J : Nat → Nat → Int} {s m : Nat} {f : Nat → Int} (hp : (lst m f).Perm (inL s n)) (hs : Srt (fun x => J x.toNat 2) f m) (h0 : ∀ k, k < n → 0 ≤ J k 0) (hf : fitB n J s = true) {i : Nat} (hi : i < m) :
    smT (fun a => J (f a).toNat 0) (i + 1) ≤ J (f i).toNat 2 := by
  have hmem : ∀ a, a < m → ∃ j : Nat, j < n ∧ f a = (j : Int) ∧ btN s j = true := fun a ha => inL_mem (hp.mem_iff.1 (List.mem_of_getElem? (lst_get m f a ha)))
  obtain ⟨j, hj, ej, hb⟩ := hmem i hi
  have h1 := fitG_iff.1 hf j hj hb
  have h2 : ldS n J s (J j 2) = smT (fun a => lsF J s (J j 2) (f a).toNat) m := by
    rw [smT_suL (fun x => lsF J s (J j 2) x.toNat) f m, suL_perm (hp.map _), inL_sum]
    exact smT_congr (fun k hk => by
      unfold lsF
      cases btN s k <;> simp)
  have h3 : smT (fun a => J (f a).toNat 0) (i + 1) = smT (fun a => lsF J s (J j 2) (f a).toNat) (i + 1) := smT_congr (fun a ha => by
    obtain ⟨k, hk, ek, hbk⟩ := hmem a (by omega)
    have h4 : J (f a).toNat 2 ≤ J (f i).toNat 2 := by
      rcases Nat.lt_or_ge a i with hl | hl
      · exact hs a i hl hi
      · obtain rfl : a = i := by omega
        exact Int.le_refl _
    rw [ek, ej, Int.toNat_natCast, Int.toNat_natCast] at h4
    rw [ek, Int.toNat_natCast]
    unfold lsF
    rw [if_pos ⟨hbk, h4⟩])
  have h5 := smT_mono (f := fun a => lsF J s (J j 2) (f a).toNat) (n := i + 1) (m := m) (by omega) (fun a _ ha => by
    obtain ⟨k, hk, ek, -⟩ := hmem a ha
    show 0 ≤ lsF J s (J j 2) (f a).toNat
    rw [ek, Int.toNat_natCast]
    unfold lsF
    have := h0 k hk
    split <;> omega)
  rw [ej, Int.toNat_natCast]
  omega

/-- An order of all is one. -/
theorem nodup_range (n : Nat) : (lst n (fun j => (j : Int))).Nodup := by
  unfold lst
  exact List.Pairwise.map _ (fun a b h e => h (by have e : (a : Int) = b := e; omega)) List.nodup_range
theorem perm_inj {n : Nat} {f : Nat → Int} (h : (lst n f).Perm (lst n (fun k => (k : Int)))) {a b : Nat} (ha : a < n) (hb : b < n) (he : f a = f b) : a = b := by
  have hn := h.nodup_iff.2 (nodup_range n)
  have h1 := lst_get n f a ha
  have h2 := lst_get n f b hb
  rw [he, ← h2] at h1
  exact (List.getElem?_inj (by rw [lst_len]; exact ha) hn).1 h1
theorem ordB_perm {n : Nat} {f : Nat → Int} (h : (lst n f).Perm (lst n (fun k => (k : Int)))) : ordB n f n = true := by
  unfold ordB
  rw [decide_eq_true rfl, Bool.true_and]
  refine allB_t (fun k hk => ?_)
  unfold ordP
  have := perm_rng h hk
  rw [decide_eq_true this.1, decide_eq_true this.2, Bool.and_self, Bool.true_and]
  cases hb : hasB f (f k) k with
  | false => rfl
  | true =>
    obtain ⟨j, hj, e⟩ := (hasB_iff _ _ _).1 hb
    have := perm_inj h (by omega) hk e
    omega
theorem ordB_inj {n : Nat} {f : Nat → Int} (h : ordB n f n = true) {a b : Nat} (hb : b < n) (hl : a < b) : f a ≠ f b := fun e => by
  have h1 := allB_iff.1 (Bool.and_eq_true_iff.1 h).2 b hb
  unfold ordP at h1
  have h2 := (Bool.and_eq_true_iff.1 h1).2
  have h3 : hasB f (f b) b = true := (hasB_iff _ _ _).2 ⟨a, hl, e⟩
  rw [h3] at h2
  cases h2
/-- When a job ends. -/
theorem eoF_at {J : Nat → Nat → Int} {f : Nat → Int} : ∀ k i, i < k → (∀ a, i < a → a < k → (f a).toNat ≠ (f i).toNat) → eoF J f k (f i).toNat = smT (fun a => J (f a).toNat 0) (i + 1) := by
  intro k
  induction k with
  | zero => intro i h; omega
  | succ k ih =>
    intro i hi hne
    rw [eoF]
    by_cases e : i = k
    · subst e
      rw [upd_at]
    · rw [upd_ne _ _ (fun h => hne k (by omega) (by omega) h.symm)]
      exact ih i (by omega) (fun a h1 h2 => hne a h1 (by omega))
theorem eoF_ord {n : Nat} {J : Nat → Nat → Int} {f : Nat → Int} (h : ordB n f n = true) {i : Nat} (hi : i < n) : eoF J f n (f i).toNat = smT (fun a => J (f a).toNat 0) (i + 1) :=
  eoF_at n i hi (fun a h1 h2 e => by
    have h3 := ordB_inj h h2 h1
    have h4 := ord_rng h i hi
    have h5 := ord_rng h a h2
    omega)

/-- A set of what has a mark. -/
theorem bt_add {t n : Nat} (ht : t < 2 ^ n) (b : Bool) : ∀ j, j ≤ n → btN (t + if b = true then 2 ^ n else 0) j = if j = n then b else btN t j := by
  intro j hj
  by_cases e : j = n
  · subst e
    rw [if_pos rfl]
    unfold btN
    cases b with
    | false =>
      simp only [Bool.false_eq_true, if_false, Nat.add_zero]
      rw [Nat.div_eq_of_lt ht]
      rfl
    | true =>
      simp only [if_true]
      rw [Nat.add_div_right _ (Nat.pow_pos (by omega)), Nat.div_eq_of_lt ht]
      rfl
  · rw [if_neg e]
    cases b with
    | false => simp
    | true =>
      simp only [if_true]
      unfold btN
      obtain ⟨d, rfl⟩ : ∃ d, n = j + (d + 1) := ⟨n - j - 1, by omega⟩
      have h1 : 2 ^ (j + (d + 1)) = 2 ^ j * (2 * 2 ^ d) := by rw [Nat.pow_add, Nat.pow_succ, Nat.mul_comm (2 ^ d) 2]
      rw [h1, Nat.add_mul_div_left _ _ (Nat.pow_pos (by omega))]
      congr 2
      omega
theorem set_ex (P : Nat → Bool) : ∀ n, ∃ t, t < 2 ^ n ∧ ∀ j, j < n → btN t j = P j := by
  intro n
  induction n with
  | zero => exact ⟨0, by simp, fun j h => by omega⟩
  | succ n ih =>
    obtain ⟨t, h1, h2⟩ := ih
    refine ⟨t + if P n = true then 2 ^ n else 0, ?_, fun j hj => ?_⟩
    · rw [Nat.pow_succ]
      split <;> omega
    · rw [bt_add h1 _ j (by omega)]
      by_cases e : j = n
      · rw [if_pos e, e]
      · rw [if_neg e]
        exact h2 j (by omega)
/-- Those on time in an order can be on time. -/
theorem fit_ord {n : Nat} {J : Nat → Nat → Int} {f : Nat → Int} (h : ordB n f n = true) (hp : (lst n f).Perm (lst n (fun k => (k : Int)))) (h0 : ∀ k, k < n → 0 ≤ J k 0) {t : Nat} (ht : ∀ j, j < n → btN t j = decide (eoF J f n j ≤ J j 2)) : fitB n J t = true := by
  refine fitG_iff.2 (fun j hj hb => ?_)
  rw [Int.zero_add]
  have hrg := fun a (ha : a < n) => perm_rng hp ha
  obtain ⟨a0, ha0, e0⟩ := perm_has hp hj
  obtain ⟨p, hp1, ⟨k1, k2⟩, k3⟩ := last_ex (P := fun a => btN t (f a).toNat = true ∧ J (f a).toNat 2 ≤ J j 2) n ⟨a0, ha0, by rw [e0, Int.toNat_natCast]; exact ⟨hb, Int.le_refl _⟩⟩
  have hr := hrg p hp1
  have h1 := ht (f p).toNat (by omega)
  rw [k1, eoF_ord h hp1] at h1
  have h2 : smT (fun a => J (f a).toNat 0) (p + 1) ≤ J (f p).toNat 2 := of_decide_eq_true h1.symm
  have h3 : ldS n J t (J j 2) = smT (fun a => lsF J t (J j 2) (f a).toNat) n := (smT_perm hp (lsF J t (J j 2))).symm
  rw [h3, smT_part (n := p + 1) (by omega) (fun k hk1 hk2 => by
    show lsF _ _ _ _ = 0
    unfold lsF
    rw [if_neg]
    rintro ⟨q1, q2⟩
    exact k3 k (by omega) hk2 ⟨q1, q2⟩)]
  have h4 : smT (fun a => lsF J t (J j 2) (f a).toNat) (p + 1) ≤ smT (fun a => J (f a).toNat 0) (p + 1) := smT_le (fun k hk => by
    have := hrg k (by omega)
    have := h0 (f k).toNat (by omega)
    unfold lsF
    split
    · exact Int.le_refl _
    · omega)
  omega
theorem pigD : ∀ (n : Nat) (f : Nat → Nat), (∀ k, k < n + 1 → f k < n) → ∃ i j, i < j ∧ j < n + 1 ∧ f i = f j := by
  intro n
  induction n with
  | zero => intro f h; exact absurd (h 0 (by omega)) (by omega)
  | succ n ih =>
    intro f h
    by_cases hx : ∃ i, i < n + 1 ∧ f i = f (n + 1)
    · obtain ⟨i, hi, e⟩ := hx
      exact ⟨i, n + 1, hi, by omega, e⟩
    · have hx' : ∀ i, i < n + 1 → f i ≠ f (n + 1) := fun i hi e => hx ⟨i, hi, e⟩
      obtain ⟨i, j, h1, h2, e⟩ := ih (fun k => if f k < f (n + 1) then f k else f k - 1) (fun k hk => by
        have a1 := h k (by omega)
        have a2 := h (n + 1) (by omega)
        have a3 := hx' k hk
        show (if f k < f (n + 1) then f k else f k - 1) < n
        split <;> omega)
      have a3 := hx' i (by omega)
      have a4 := hx' j (by omega)
      refine ⟨i, j, h1, by omega, ?_⟩
      have e' : (if f i < f (n + 1) then f i else f i - 1) = (if f j < f (n + 1) then f j else f j - 1) := e
      split at e' <;> split at e' <;> omega

theorem ord_surj {n : Nat} {f : Nat → Int} (h : ordB n f n = true) {x : Nat} (hx : x < n) : ∃ k, k < n ∧ f k = (x : Int) := by
  have hr := ord_rng h
  apply Classical.byContradiction
  intro hno
  have hn : ∀ k, k < n → f k ≠ (x : Int) := fun k hk e => hno ⟨k, hk, e⟩
  obtain ⟨m, rfl⟩ : ∃ m, n = m + 1 := ⟨n - 1, by omega⟩
  obtain ⟨i, j, h1, h2, e⟩ := pigD m (fun k => if (f k).toNat < x then (f k).toNat else (f k).toNat - 1) (fun k hk => by
    have a1 := hr k hk
    have a2 := hn k hk
    show (if (f k).toNat < x then (f k).toNat else (f k).toNat - 1) < m
    split <;> omega)
  have e' : (if (f i).toNat < x then (f i).toNat else (f i).toNat - 1) = (if (f j).toNat < x then (f j).toNat else (f j).toNat - 1) := e
  have a1 := hr i (by omega)
  have a2 := hr j (by omega)
  have a3 := hn i (by omega)
  have a4 := hn j (by omega)
  refine ordB_inj h h2 h1 ?_
  split at e' <;> split at e' <;> omega
theorem perm_ord {n : Nat} {f : Nat → Int} (h : ordB n f n = true) : (lst n f).Perm (lst n (fun k => (k : Int))) := by
  have hn : (lst n f).Nodup := by
    unfold List.Nodup
    rw [List.pairwise_iff_getElem]
    intro i j hi hj hl
    rw [lst_len] at hj
    simp only [lst, List.getElem_map, List.getElem_range]
    exact ordB_inj h hj hl
  refine (List.perm_ext_iff_of_nodup hn (nodup_range n)).2 (fun x => ?_)
  unfold lst
  constructor
  · intro hx
    obtain ⟨k, hk, e⟩ := List.mem_map.1 hx
    have := ord_rng h k (List.mem_range.1 hk)
    exact List.mem_map.2 ⟨(f k).toNat, List.mem_range.2 (by omega), by omega⟩
  · intro hx
    obtain ⟨k, hk, e⟩ := List.mem_map.1 hx
    obtain ⟨a, ha, e2⟩ := ord_surj h (List.mem_range.1 hk)
    exact List.mem_map.2 ⟨a, List.mem_range.2 ha, by rw [e2, e]⟩
end Go.Proofs.Ytbgekacfimgkeaa
