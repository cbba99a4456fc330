/- Trading, in plain words: who goes in which round with what. -/
import Derived.Test.YtocfbafcplhmiaaOd
namespace Go.Proofs.Ytocfbafcplhmiaa

/-- The first k below n with p, n if there is none. -/
def fsN (p : Nat → Bool) : Nat → Nat
  | 0 => 0
  | n + 1 => if fsN p n < n then fsN p n else if p n then n else n + 1
theorem fsN_le (p : Nat → Bool) : ∀ n, fsN p n ≤ n := by
  intro n
  induction n with
  | zero => exact Nat.le_refl _
  | succ n ih => rw [fsN]; split <;> (try split) <;> omega
theorem fsN_at (p : Nat → Bool) : ∀ n, fsN p n < n → p (fsN p n) = true := by
  intro n
  induction n with
  | zero => intro h; omega
  | succ n ih =>
    rw [fsN]
    split
    · intro _; exact ih (by assumption)
    · split
      · intro _; assumption
      · intro h; omega
theorem fsN_none (p : Nat → Bool) : ∀ n j, j < fsN p n → p j = false := by
  intro n
  induction n with
  | zero => intro j h; exact absurd h (by simp [fsN])
  | succ n ih =>
    intro j
    rw [fsN]
    split
    · exact ih j
    · rename_i hn
      have he : fsN p n = n := by have := fsN_le p n; omega
      split
      · intro h; exact ih j (by omega)
      · rename_i hp
        intro h
        rcases Nat.lt_or_ge j n with hl | hl
        · exact ih j (by omega)
        · obtain rfl : j = n := by omega
          simpa using hp
theorem fsN_lt {p : Nat → Bool} {n k : Nat} (hk : k < n) (h : p k = true) : fsN p n < n ∧ fsN p n ≤ k := by
  have h1 : fsN p n ≤ k := by
    rcases Nat.lt_or_ge k (fsN p n) with hl | hl
    · rw [fsN_none p n k hl] at h; cases h
    · exact hl
  exact ⟨by omega, h1⟩
theorem fsN_eq {p : Nat → Bool} {n k : Nat} (hk : k < n) (h : p k = true) (hn : ∀ j, j < k → p j = false) : fsN p n = k := by
  have h1 := (fsN_lt hk h).2
  have h2 := fsN_at p n (fsN_lt hk h).1
  rcases Nat.lt_or_ge (fsN p n) k with hl | hl
  · rw [hn _ hl] at h2; cases h2
  · omega
theorem fsN_congr {p q : Nat → Bool} {n : Nat} (h : ∀ k, k < n → p k = q k) : fsN p n = fsN q n := by
  induction n with
  | zero => rfl
  | succ n ih => rw [fsN, fsN, ih (fun k hk => h k (by omega)), h n (by omega)]

/-- f 0 .. f (n-1) are the numbers below n, each once. -/
structure Pm (n : Nat) (f : Nat → Nat) : Prop where
  lt : ∀ k, k < n → f k < n
  inj : ∀ i j, i < n → j < n → f i = f j → i = j
theorem Pm.ord {n : Nat} {f : Nat → Nat} (h : Pm n f) : Ord n (fun k => (f k : Int)) :=
  ⟨fun k hk => by have := h.lt k hk; constructor <;> omega, fun i j hij hj e => by have := h.inj i j (by omega) hj (Int.ofNat.inj e); omega⟩
theorem Pm.of {n : Nat} {f : Nat → Nat} (h : Ord n (fun k => (f k : Int))) : Pm n f :=
  ⟨fun k hk => by have := h.rng k hk; omega, fun i j hi hj e => h.uniq hi hj (by simp [e])⟩
theorem Pm.surj {n : Nat} {f : Nat → Nat} (h : Pm n f) {x : Nat} (hx : x < n) : ∃ k, k < n ∧ f k = x := by
  obtain ⟨k, hk, e⟩ := h.ord.surj hx
  exact ⟨k, hk, Int.ofNat.inj e⟩

/-- f, k times. -/
def itF (f : Nat → Nat) : Nat → Nat → Nat
  | 0, i => i
  | k + 1, i => f (itF f k i)
theorem itF_add (f : Nat → Nat) (a b i : Nat) : itF f (a + b) i = itF f a (itF f b i) := by
  induction a with
  | zero => rw [Nat.zero_add]; rfl
  | succ a ih => rw [Nat.succ_add]; show f _ = f _; rw [ih]
theorem itF_succ (f : Nat → Nat) (k i : Nat) : itF f (k + 1) i = itF f k (f i) := by rw [itF_add f k 1 i]; rfl
/-- Back at i within n steps. -/
def onC (f : Nat → Nat) (n i : Nat) : Bool := anyB (fun k => decide (itF f (k + 1) i = i)) n
theorem onC_iff {f : Nat → Nat} {n i : Nat} : onC f n i = true ↔ ∃ k, k < n ∧ itF f (k + 1) i = i := by
  unfold onC
  rw [anyB_iff]
  simp
theorem onC_next {f : Nat → Nat} {n i : Nat} (h : onC f n i = true) : onC f n (f i) = true := by
  obtain ⟨k, hk, e⟩ := onC_iff.1 h
  refine onC_iff.2 ⟨k, hk, ?_⟩
  rw [← itF_succ]
  show f (itF f (k + 1) i) = f i
  rw [e]
theorem itF_keep {f : Nat → Nat} {P : Nat → Prop} (hP : ∀ i, P i → P (f i)) : ∀ k i, P i → P (itF f k i) := by
  intro k
  induction k with
  | zero => intro i h; exact h
  | succ k ih => intro i h; exact hP _ (ih i h)
theorem itF_congr {f g : Nat → Nat} {P : Nat → Prop} (hP : ∀ i, P i → P (f i)) (he : ∀ i, P i → f i = g i) : ∀ k i, P i → itF f k i = itF g k i := by
  intro k
  induction k with
  | zero => intro i _; rfl
  | succ k ih => intro i h; show f _ = g _; rw [← ih i h]; exact he _ (itF_keep hP k i h)
theorem onC_congr {f g : Nat → Nat} {n i : Nat} {P : Nat → Prop} (hP : ∀ i, P i → P (f i)) (he : ∀ i, P i → f i = g i) (h : P i) : onC f n i = onC g n i := by
  rw [Bool.eq_iff_iff, onC_iff, onC_iff]
  constructor
  · rintro ⟨k, hk, e⟩; exact ⟨k, hk, by rw [← itF_congr hP he (k + 1) i h]; exact e⟩
  · rintro ⟨k, hk, e⟩; exact ⟨k, hk, by rw [itF_congr hP he (k + 1) i h]; exact e⟩
/-- From any start within the first n, which f keeps, someone on a cycle is reached. -/
theorem cycle_ex {f : Nat → Nat} {n : Nat} {P : Nat → Prop} (hP : ∀ i, P i → P (f i)) (hn : ∀ i, P i → i < n) {i : Nat} (hi : P i) : ∃ j, P j ∧ onC f n j = true := by
  obtain ⟨a, b, h1, h2, e⟩ := pig n (fun k => itF f k i) (fun k _ => hn _ (itF_keep hP k i hi))
  refine ⟨itF f a i, itF_keep hP a i hi, onC_iff.2 ⟨b - a - 1, by omega, ?_⟩⟩
  rw [← itF_add, show b - a - 1 + 1 + a = b by omega]
  exact e.symm

section
variable (t : Nat → Nat → Nat) (n : Nat) (ow : Nat → Nat)
/-- The best of the things whose owners are left; who has it; who goes. -/
def bsF (lv : Nat → Bool) (i : Nat) : Nat := t i (fsN (fun k => lv (ow (t i k))) n)
def nxF (lv : Nat → Bool) (i : Nat) : Nat := ow (bsF t n ow lv i)
def gsF (lv : Nat → Bool) (i : Nat) : Bool := lv i && onC (nxF t n ow lv) n i
/-- Who is left when round r begins; what everyone has then; when they left. -/
def lfF : Nat → Nat → Bool
  | 0 => fun _ => true
  | r + 1 => fun i => lfF r i && !gsF t n ow (lfF r) i
def oF : Nat → Nat → Nat
  | 0 => fun _ => 0
  | r + 1 => fun i => if gsF t n ow (lfF t n ow r) i then bsF t n ow (lfF t n ow r) i else oF r i
def rF : Nat → Nat → Nat
  | 0 => fun _ => 0
  | r + 1 => fun i => if gsF t n ow (lfF t n ow r) i then r else rF r i
end
theorem lfF_succ (t : Nat → Nat → Nat) (n : Nat) (ow : Nat → Nat) (r i : Nat) : lfF t n ow (r + 1) i = (lfF t n ow r i && !gsF t n ow (lfF t n ow r) i) := rfl
theorem oF_succ (t : Nat → Nat → Nat) (n : Nat) (ow : Nat → Nat) (r i : Nat) : oF t n ow (r + 1) i = if gsF t n ow (lfF t n ow r) i then bsF t n ow (lfF t n ow r) i else oF t n ow r i := rfl
theorem rF_succ (t : Nat → Nat → Nat) (n : Nat) (ow : Nat → Nat) (r i : Nat) : rF t n ow (r + 1) i = if gsF t n ow (lfF t n ow r) i then r else rF t n ow r i := rfl
/-- Wishes of n people; who has what. -/
structure Wsh (n : Nat) (t : Nat → Nat → Nat) (ow : Nat → Nat) : Prop where
  t : ∀ i, i < n → Pm n (t i)
  ow : Pm n ow
section
variable {t : Nat → Nat → Nat} {n : Nat} {ow : Nat → Nat}
/-- Of a set with someone left: the best thing is there, its owner is left, and nothing better is. -/
theorem bsF_at (h : Wsh n t ow) {lv : Nat → Bool} {i j : Nat} (hi : i < n) (hj : j < n) (hl : lv j = true) :
    ∃ k, k < n ∧ bsF t n ow lv i = t i k ∧ lv (ow (t i k)) = true ∧ fsN (fun k => lv (ow (t i k))) n = k ∧ ∀ q, q < k → lv (ow (t i q)) = false := by
  obtain ⟨x, hx, ex⟩ := h.ow.surj hj
  obtain ⟨k0, hk0, ek⟩ := (h.t i hi).surj hx
  have h1 := fsN_lt (p := fun k => lv (ow (t i k))) hk0 (by show lv (ow (t i k0)) = true; rw [ek, ex]; exact hl)
  exact ⟨_, h1.1, rfl, fsN_at (fun k => lv (ow (t i k))) n h1.1, rfl, fun q hq => fsN_none (fun k => lv (ow (t i k))) n q hq⟩
theorem nxF_keep (h : Wsh n t ow) {lv : Nat → Bool} {i j : Nat} (hi : i < n) (hj : j < n) (hl : lv j = true) : nxF t n ow lv i < n ∧ lv (nxF t n ow lv i) = true := by
  obtain ⟨k, hk, e, h1, -, -⟩ := bsF_at h hi hj hl
  unfold nxF
  rw [e]
  exact ⟨h.ow.lt _ ((h.t i hi).lt k hk), h1⟩
theorem gsF_ex (h : Wsh n t ow) {lv : Nat → Bool} {i : Nat} (hi : i < n) (hl : lv i = true) : ∃ j, j < n ∧ gsF t n ow lv j = true := by
  obtain ⟨j, ⟨h1, h2⟩, h3⟩ := cycle_ex (f := nxF t n ow lv) (n := n) (P := fun i => i < n ∧ lv i = true) (fun i hi => nxF_keep h hi.1 hi.1 hi.2) (fun i hi => hi.1) ⟨hi, hl⟩
  exact ⟨j, h1, by unfold gsF; rw [h2, h3]; rfl⟩
theorem gsF_left {lv : Nat → Bool} {i : Nat} (h : gsF t n ow lv i = true) : lv i = true := by
  unfold gsF at h
  rw [Bool.and_eq_true] at h
  exact h.1
theorem gsF_next (h : Wsh n t ow) {lv : Nat → Bool} {i : Nat} (hi : i < n) (hg : gsF t n ow lv i = true) : gsF t n ow lv (nxF t n ow lv i) = true := by
  have hl := gsF_left hg
  unfold gsF at hg ⊢
  rw [Bool.and_eq_true] at hg ⊢
  exact ⟨(nxF_keep h hi hi hl).2, onC_next hg.2⟩
theorem lfF_mono {r r' : Nat} (h : r ≤ r') {i : Nat} (hl : lfF t n ow r' i = true) : lfF t n ow r i = true := by
  induction r' with
  | zero => obtain rfl : r = 0 := by omega
            exact hl
  | succ r' ih =>
    rcases Nat.lt_or_ge r (r' + 1) with h1 | h1
    · refine ih (by omega) ?_
      rw [lfF_succ, Bool.and_eq_true] at hl
      exact hl.1
    · obtain rfl : r = r' + 1 := by omega
      exact hl
/-- How many are left. -/
def cnN (lv : Nat → Bool) : Nat → Nat
  | 0 => 0
  | k + 1 => cnN lv k + if lv k then 1 else 0
theorem cnN_le {a b : Nat → Bool} {m : Nat} (h : ∀ k, k < m → a k = true → b k = true) : cnN a m ≤ cnN b m := by
  induction m with
  | zero => exact Nat.le_refl _
  | succ m ih =>
    have h1 := ih (fun k hk => h k (by omega))
    have h2 := h m (by omega)
    rw [cnN, cnN]
    cases ha : a m with
    | false => simp; omega
    | true => rw [h2 ha]; simp; omega
theorem cnN_lt {a b : Nat → Bool} {m j : Nat} (h : ∀ k, k < m → a k = true → b k = true) (hj : j < m) (h1 : a j = false) (h2 : b j = true) : cnN a m < cnN b m := by
  induction m with
  | zero => omega
  | succ m ih =>
    have h3 := h m (by omega)
    rw [cnN, cnN]
    rcases Nat.lt_or_ge j m with hl | hl
    · have := ih (fun k hk => h k (by omega)) hl
      cases ha : a m with
      | false => simp; omega
      | true => rw [h3 ha]; simp; omega
    · obtain rfl : j = m := by omega
      have := cnN_le (m := j) (fun k hk => h k (by omega))
      rw [h1, h2]
      simp
      omega
theorem cnN_zero {a : Nat → Bool} {m : Nat} (h : cnN a m = 0) : ∀ k, k < m → a k = false := by
  induction m with
  | zero => intro k hk; omega
  | succ m ih =>
    intro k hk
    rw [cnN] at h
    rcases Nat.lt_or_ge k m with hl | hl
    · exact ih (by omega) k hl
    · obtain rfl : k = m := by omega
      cases ha : a k with
      | false => rfl
      | true => rw [ha] at h; simp at h
theorem cnN_top (a : Nat → Bool) : ∀ m, cnN a m ≤ m := by
  intro m
  induction m with
  | zero => exact Nat.le_refl _
  | succ m ih => rw [cnN]; split <;> omega
theorem lf_count (h : Wsh n t ow) : ∀ r, cnN (lfF t n ow r) n ≤ n - r := by
  intro r
  induction r with
  | zero => exact cnN_top _ _
  | succ r ih =>
    have hm : ∀ k, k < n → lfF t n ow (r + 1) k = true → lfF t n ow r k = true := fun k _ hk => lfF_mono (by omega) hk
    rcases Nat.eq_zero_or_pos (cnN (lfF t n ow r) n) with h0 | h0
    · have := cnN_le hm
      omega
    · have hex : ∃ i, i < n ∧ lfF t n ow r i = true := by
        apply Classical.byContradiction
        intro hno
        have hz : ∀ m, m ≤ n → cnN (lfF t n ow r) m = 0 := by
          intro m
          induction m with
          | zero => intro _; rfl
          | succ m ih2 =>
            intro hm
            rw [cnN, ih2 (by omega)]
            cases ha : lfF t n ow r m with
            | false => rfl
            | true => exact absurd ⟨m, by omega, ha⟩ hno
        rw [hz n (Nat.le_refl _)] at h0
        omega
      obtain ⟨i, hi, hl⟩ := hex
      obtain ⟨j, hj, hg⟩ := gsF_ex h hi hl
      have := cnN_lt hm hj (by rw [lfF_succ, hg]; simp) (gsF_left hg)
      omega
/-- After n rounds all have left. -/
theorem lf_done (h : Wsh n t ow) {i : Nat} (hi : i < n) : lfF t n ow n i = false := cnN_zero (by have := lf_count h n; omega) i hi
/-- Who has left by round r did so in one round before. -/
theorem left_in {r : Nat} {i : Nat} (hl : lfF t n ow r i = false) : ∃ q, q < r ∧ gsF t n ow (lfF t n ow q) i = true := by
  induction r with
  | zero => simp [lfF] at hl
  | succ r ih =>
    cases h1 : lfF t n ow r i with
    | false =>
      obtain ⟨q, hq, hg⟩ := ih h1
      exact ⟨q, by omega, hg⟩
    | true =>
      rw [lfF_succ, h1, Bool.true_and] at hl
      exact ⟨r, by omega, by simpa using hl⟩
theorem gone_after {q r : Nat} {i : Nat} (hg : gsF t n ow (lfF t n ow q) i = true) (hr : q < r) : lfF t n ow r i = false := by
  cases h1 : lfF t n ow r i with
  | false => rfl
  | true =>
    have h2 := lfF_mono (r := q + 1) (by omega) h1
    rw [lfF_succ, hg] at h2
    simp at h2
theorem of_after {q r : Nat} {i : Nat} (hg : gsF t n ow (lfF t n ow q) i = true) (hr : q < r) : oF t n ow r i = bsF t n ow (lfF t n ow q) i ∧ rF t n ow r i = q := by
  induction r with
  | zero => omega
  | succ r ih =>
    rw [oF_succ, rF_succ]
    rcases Nat.lt_or_ge q r with hl | hl
    · have h1 := gone_after hg hl
      have h2 : gsF t n ow (lfF t n ow r) i = false := by unfold gsF; rw [h1]; rfl
      rw [h2]
      exact ih hl
    · obtain rfl : q = r := by omega
      rw [hg]
      exact ⟨rfl, rfl⟩
/-- Once all have left nothing changes. -/
theorem of_done (h : Wsh n t ow) {r : Nat} (hd : ∀ i, i < n → lfF t n ow r i = false) {i : Nat} (hi : i < n) : oF t n ow r i = oF t n ow n i ∧ rF t n ow r i = rF t n ow n i := by
  obtain ⟨q, hq, hg⟩ := left_in (hd i hi)
  have hqn : q < n := by
    rcases Nat.lt_or_ge q n with h1 | h1
    · exact h1
    · have := lfF_mono h1 (gsF_left hg)
      rw [lf_done h hi] at this
      cases this
  have h1 := of_after hg hq
  have h2 := of_after hg hqn
  exact ⟨h1.1.trans h2.1.symm, h1.2.trans h2.2.symm⟩
/-- The outcome, and when everyone leaves. -/
def trF (t : Nat → Nat → Nat) (n : Nat) (ow : Nat → Nat) : Nat → Nat := oF t n ow n
def rnF (t : Nat → Nat → Nat) (n : Nat) (ow : Nat → Nat) : Nat → Nat := rF t n ow n
theorem goes_at (h : Wsh n t ow) {i : Nat} (hi : i < n) : gsF t n ow (lfF t n ow (rnF t n ow i)) i = true ∧ trF t n ow i = bsF t n ow (lfF t n ow (rnF t n ow i)) i ∧ rnF t n ow i < n := by
  obtain ⟨q, hq, hg⟩ := left_in (lf_done h hi)
  have h1 := of_after hg hq
  have e : rnF t n ow i = q := h1.2
  rw [e]
  exact ⟨hg, h1.1, hq⟩
theorem goes_iff (h : Wsh n t ow) {i q : Nat} (hi : i < n) : gsF t n ow (lfF t n ow q) i = true ↔ rnF t n ow i = q := by
  constructor
  · intro hg
    have hqn : q < n := by
      rcases Nat.lt_or_ge q n with h1 | h1
      · exact h1
      · have := lfF_mono h1 (gsF_left hg)
        rw [lf_done h hi] at this
        cases this
    exact (of_after hg hqn).2
  · rintro rfl
    exact (goes_at h hi).1
/-- Left at round r: it leaves then or later. -/
theorem left_iff (h : Wsh n t ow) {i r : Nat} (hi : i < n) : lfF t n ow r i = true ↔ r ≤ rnF t n ow i := by
  obtain ⟨hg, -, -⟩ := goes_at h hi
  constructor
  · intro hl
    rcases Nat.lt_or_ge (rnF t n ow i) r with h1 | h1
    · rw [gone_after hg h1] at hl; cases hl
    · exact h1
  · intro hr
    exact lfF_mono hr (gsF_left hg)
/-- What someone gets has an owner who leaves in the same round; it is the best that is left. -/
theorem gets_at (h : Wsh n t ow) {i : Nat} (hi : i < n) :
    ∃ k, k < n ∧ trF t n ow i = t i k ∧ ow (t i k) < n ∧ rnF t n ow (ow (t i k)) = rnF t n ow i ∧ ∀ q, q < k → rnF t n ow (ow (t i q)) < rnF t n ow i := by
  obtain ⟨hg, ht, hr⟩ := goes_at h hi
  obtain ⟨k, hk, e, h1, -, h2⟩ := bsF_at h hi hi (gsF_left hg)
  have hlt : ow (t i k) < n := h.ow.lt _ ((h.t i hi).lt k hk)
  refine ⟨k, hk, by rw [ht, e], hlt, ?_, fun q hq => ?_⟩
  · have := gsF_next h hi hg
    unfold nxF at this
    rw [e] at this
    exact (goes_iff h hlt).1 this
  · have hlq : ow (t i q) < n := h.ow.lt _ ((h.t i hi).lt q (by omega))
    have h3 := h2 q hq
    rcases Nat.lt_or_ge (rnF t n ow (ow (t i q))) (rnF t n ow i) with h4 | h4
    · exact h4
    · rw [(left_iff h hlq).2 h4] at h3
      cases h3
/-- Each round before the last one someone leaves. -/
theorem round_ex (h : Wsh n t ow) {i q : Nat} (hi : i < n) (hq : q ≤ rnF t n ow i) : ∃ j, j < n ∧ rnF t n ow j = q := by
  obtain ⟨j, hj, hg⟩ := gsF_ex h hi ((left_iff h hi).2 hq)
  exact ⟨j, hj, (goes_iff h hj).1 hg⟩
/-- Everyone on a cycle of those who go is pointed to by someone who goes. -/
theorem prev_at (h : Wsh n t ow) {i : Nat} (hi : i < n) : ∃ j, j < n ∧ rnF t n ow j = rnF t n ow i ∧ ow (trF t n ow j) = i := by
  obtain ⟨hg, ht, hr⟩ := goes_at h hi
  have hl := gsF_left hg
  have hc : onC (nxF t n ow (lfF t n ow (rnF t n ow i))) n i = true := by
    unfold gsF at hg
    rw [Bool.and_eq_true] at hg
    exact hg.2
  obtain ⟨k, hk, e⟩ := onC_iff.1 hc
  have hkeep := itF_keep (f := nxF t n ow (lfF t n ow (rnF t n ow i))) (P := fun j => j < n ∧ gsF t n ow (lfF t n ow (rnF t n ow i)) j = true) (fun j hj => ⟨(nxF_keep h hj.1 hi hl).1, gsF_next h hj.1 hj.2⟩) k i ⟨hi, hg⟩
  have e2 := (goes_iff h hkeep.1).1 hkeep.2
  refine ⟨_, hkeep.1, e2, ?_⟩
  have e3 := (goes_at h hkeep.1).2.1
  rw [e3, e2]
  exact e
theorem trF_pm (h : Wsh n t ow) : Pm n (trF t n ow) := by
  have hs : ∀ x : Nat, x < n → ∃ k, k < n ∧ trF t n ow k = x := fun x hx => by
    obtain ⟨j, hj, -, e⟩ := prev_at h (h.ow.lt x hx)
    obtain ⟨k, hk, ek, hlt, -, -⟩ := gets_at h hj
    exact ⟨j, hj, h.ow.inj _ _ (by rw [ek]; exact (h.t j hj).lt k hk) hx e⟩
  exact Pm.of (ord_of_surj (fun x hx => by
    obtain ⟨k, hk, e⟩ := hs x hx
    exact ⟨k, hk, by simp [e]⟩))
end
end Go.Proofs.Ytocfbafcplhmiaa
