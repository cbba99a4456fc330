/- Stable matchings: two of them have equally many hands in every shift, and what hands have in either, the better and the worse, is stable. -/
import Derived.Test.YtiigcjcolpmafaaGv
namespace Go.Proofs.Ytiigcjcolpmafaa

def rHd (p : PlanD) (h : Nat) (s : Int) : Int := rkI (p.vH h) (p.LH h) s
def rSd (p : PlanD) (s h : Nat) : Int := rkI (p.vS s) (p.LS s) (h : Int)
theorem poss_if2 {p : PlanD} {h : Nat} {s : Int} : possB p h s = true ↔ 0 ≤ idxI (p.vH h) s (p.LH h) ∧ 0 ≤ idxI (p.vS s.toNat) (h : Int) (p.LS s.toNat) := by
  unfold possB
  rw [Bool.and_eq_true_iff, decide_eq_true_iff, decide_eq_true_iff]
theorem poss_rg2 {p : PlanD} {h : Nat} {s : Int} (hok : okPlan p = true) (hh : h < p.nH) (hs : possB p h s = true) : 0 ≤ s ∧ s < (p.nS : Int) :=
  RowOk.rng ((okPlan_of hok).2.2.1 h hh) (poss_if2.1 hs).1
theorem rkI_sm2 {f : Nat → Int} {L : Nat} {x : Int} (h : 0 ≤ idxI f x L) : rkI f L x = idxI f x L ∧ rkI f L x < L := by
  have := idxI_bd f x L
  unfold rkI
  rw [if_neg (by omega)]
  omega
theorem rkI_nn2 {f : Nat → Int} {L : Nat} {x : Int} (h : idxI f x L < 0) : rkI f L x = L := by
  have := idxI_bd f x L
  unfold rkI
  rw [if_pos (by omega)]
theorem rkI_lt {f : Nat → Int} {L : Nat} {x : Int} : rkI f L x < L ↔ 0 ≤ idxI f x L := by
  constructor
  · intro h
    rcases Int.lt_or_le (idxI f x L) 0 with h1 | h1
    · rw [rkI_nn2 h1] at h
      omega
    · exact h1
  · exact fun h => (rkI_sm2 h).2
/-- -1 is not listed. -/
theorem rHd_neg {p : PlanD} {h : Nat} (hok : okPlan p = true) (hh : h < p.nH) : rHd p h (-1) = p.LH h := by
  refine rkI_nn2 ?_
  rcases Int.lt_or_le (idxI (p.vH h) (-1) (p.LH h)) 0 with h1 | h1
  · exact h1
  · have := RowOk.rng ((okPlan_of hok).2.2.1 h hh) h1
    omega
theorem rHd_poss {p : PlanD} {h : Nat} {s : Int} (hs : possB p h s = true) : rHd p h s < p.LH h := rkI_lt.2 (poss_if2.1 hs).1
theorem rHd_inj {p : PlanD} {h : Nat} {s t : Int} (hs : possB p h s = true) (ht : possB p h t = true) (e : rHd p h s = rHd p h t) : s = t := rkI_inj (poss_if2.1 hs).1 (poss_if2.1 ht).1 e
theorem rSd_inj {p : PlanD} {s h x : Nat} (hs : possB p h s = true) (ht : possB p x s = true) (e : rSd p s h = rSd p s x) : h = x := by
  have := rkI_inj (poss_if2.1 hs).2 (poss_if2.1 ht).2 e
  omega

/-- A stable matching, in plain words. -/
structure Stb (p : PlanD) (m : Nat → Int) : Prop where
  mat : ∀ h, h < p.nH → m h = -1 ∨ possB p h (m h) = true
  cap : ∀ s : Nat, s < p.nS → (cnt m s p.nH : Int) ≤ p.pl s
  nob : ∀ h s : Nat, h < p.nH → s < p.nS → possB p h s = true → rHd p h s < rHd p h (m h) → (cnt m s p.nH : Int) = p.pl s ∧ ∀ x, x < p.nH → m x = s → rSd p s x < rSd p s h

theorem cnt_imp {a b : Nat → Int} {s t : Int} : ∀ n, (∀ h, h < n → a h = s → b h = t) → cnt a s n ≤ cnt b t n := by
  intro n
  induction n with
  | zero => intro _; exact Nat.le_refl _
  | succ n ih =>
    intro h
    have := ih (fun x hx => h x (by omega))
    have h1 := h n (by omega)
    simp only [cnt]
    by_cases e : a n = s
    · rw [if_pos e, if_pos (h1 e)]
      omega
    · rw [if_neg e]
      split <;> omega
theorem cnt_imp_lt {a b : Nat → Int} {s t : Int} : ∀ n, (∀ h, h < n → a h = s → b h = t) → (∃ h, h < n ∧ b h = t ∧ a h ≠ s) → cnt a s n < cnt b t n := by
  intro n
  induction n with
  | zero => rintro _ ⟨h, hh, -⟩; omega
  | succ n ih =>
    rintro h ⟨y, hy, hb, ha⟩
    have h1 := h n (by omega)
    simp only [cnt]
    by_cases e : y = n
    · subst e
      have := cnt_imp (a := a) (b := b) (s := s) (t := t) y (fun x hx => h x (by omega))
      rw [if_neg ha, if_pos hb]
      omega
    · have := ih (fun x hx => h x (by omega)) ⟨y, by omega, hb, ha⟩
      by_cases e2 : a n = s
      · rw [if_pos e2, if_pos (h1 e2)]
        omega
      · rw [if_neg e2]
        split <;> omega
/-- Equally many, and all of a's are b's: then all of b's are a's. -/
theorem cnt_back {a b : Nat → Int} {s t : Int} {n : Nat} (h : ∀ h, h < n → a h = s → b h = t) (he : cnt b t n ≤ cnt a s n) : ∀ h, h < n → b h = t → a h = s := by
  intro x hx e
  by_cases e2 : a x = s
  · exact e2
  · have := cnt_imp_lt n h ⟨x, hx, e, e2⟩
    omega
def sumN (f : Nat → Nat) : Nat → Nat
  | 0 => 0
  | k + 1 => sumN f k + f k
theorem sumN_one (f : Nat → Nat) (v : Int) : ∀ k, sumN (fun s => if v = (s : Int) then f s + 1 else f s) k = sumN f k + (if 0 ≤ v ∧ v < (k : Int) then 1 else 0) := by
  intro k
  induction k with
  | zero =>
    simp only [sumN]
    rw [if_neg (by omega)]
  | succ k ih =>
    simp only [sumN]
    rw [ih]
    by_cases e : v = (k : Int)
    · rw [if_pos e, if_neg (by omega), if_pos (by omega)]
      omega
    · rw [if_neg e]
      by_cases h : 0 ≤ v ∧ v < (k : Int)
      · rw [if_pos h, if_pos (by omega)]
        omega
      · rw [if_neg h, if_neg (by omega)]
        omega
theorem sumN_congr {f g : Nat → Nat} : ∀ k, (∀ s, s < k → f s = g s) → sumN f k = sumN g k := by
  intro k
  induction k with
  | zero => intro _; rfl
  | succ k ih => intro h; simp only [sumN]; rw [ih (fun s hs => h s (by omega)), h k (by omega)]
theorem sum_cnt {m : Nat → Int} {k : Nat} : ∀ n, (∀ h, h < n → -1 ≤ m h ∧ m h < (k : Int)) → sumN (fun s => cnt m (s : Int) n) k + cnt m (-1) n = n := by
  intro n
  induction n with
  | zero =>
    intro _
    have : ∀ k, sumN (fun _ => 0) k = 0 := by
      intro k
      induction k with
      | zero => rfl
      | succ k ih => simp only [sumN]; omega
    simp only [cnt]
    rw [this]
  | succ n ih =>
    intro h
    have h1 := ih (fun x hx => h x (by omega))
    have h2 := h n (by omega)
    simp only [cnt]
    rw [sumN_one (fun s => cnt m (s : Int) n) (m n) k]
    by_cases e : m n = -1
    · rw [if_neg (by omega), if_pos e]
      omega
    · rw [if_pos (by omega), if_neg e]
      omega
theorem sumN_le {f g : Nat → Nat} : ∀ k, (∀ s, s < k → f s ≤ g s) → sumN f k ≤ sumN g k := by
  intro k
  induction k with
  | zero => intro _; exact Nat.le_refl _
  | succ k ih =>
    intro h
    have := ih (fun s hs => h s (by omega))
    have := h k (by omega)
    simp only [sumN]
    omega
theorem sumN_eq {f g : Nat → Nat} : ∀ k, (∀ s, s < k → f s ≤ g s) → sumN g k ≤ sumN f k → ∀ s, s < k → f s = g s := by
  intro k
  induction k with
  | zero => intro _ _ s hs; omega
  | succ k ih =>
    intro h he s hs
    have h1 := sumN_le k (fun s hs => h s (by omega))
    have h2 := h k (by omega)
    simp only [sumN] at he
    by_cases e : s = k
    · subst e
      omega
    · exact ih (fun s hs => h s (by omega)) (by omega) s (by omega)

/-- What hands like more, and less, of what they have in a and in b. -/
def jnM (p : PlanD) (a b : Nat → Int) : Nat → Int := fun h => if rHd p h (b h) < rHd p h (a h) then b h else a h
def mtM (p : PlanD) (a b : Nat → Int) : Nat → Int := fun h => if rHd p h (b h) < rHd p h (a h) then a h else b h
section
variable {p : PlanD} {a b : Nat → Int}
theorem Stb.rng (hok : okPlan p = true) (ha : Stb p a) {h : Nat} (hh : h < p.nH) : -1 ≤ a h ∧ a h < (p.nS : Int) := by
  rcases ha.mat h hh with e | e
  · omega
  · have := poss_rg2 hok hh e
    omega
theorem Stb.worst (hok : okPlan p = true) (ha : Stb p a) {h : Nat} (hh : h < p.nH) : rHd p h (a h) ≤ p.LH h ∧ (rHd p h (a h) = p.LH h ↔ a h = -1) := by
  rcases ha.mat h hh with e | e
  · have := rHd_neg hok hh
    rw [e, this]
    simp
  · have h1 := rHd_poss e
    have h2 := poss_rg2 hok hh e
    constructor
    · omega
    · constructor <;> intro <;> omega
/-- With equal ranks both have the same. -/
theorem Stb.same (hok : okPlan p = true) (ha : Stb p a) (hb : Stb p b) {h : Nat} (hh : h < p.nH) (e : rHd p h (a h) = rHd p h (b h)) : a h = b h := by
  rcases ha.mat h hh with e1 | e1
  · have := (hb.worst hok hh).2.1 (by rw [← e]; exact (ha.worst hok hh).2.2 e1)
    rw [e1, this]
  · rcases hb.mat h hh with e2 | e2
    · have := (ha.worst hok hh).2.1 (by rw [e]; exact (hb.worst hok hh).2.2 e2)
      rw [e2, this]
    · exact rHd_inj e1 e2 e
theorem jn_or (h : Nat) : jnM p a b h = a h ∨ jnM p a b h = b h := by
  unfold jnM
  split
  · exact .inr rfl
  · exact .inl rfl
theorem mt_or (h : Nat) : mtM p a b h = a h ∨ mtM p a b h = b h := by
  unfold mtM
  split
  · exact .inl rfl
  · exact .inr rfl
theorem jn_comm (hok : okPlan p = true) (ha : Stb p a) (hb : Stb p b) {h : Nat} (hh : h < p.nH) : jnM p a b h = jnM p b a h := by
  unfold jnM
  split
  · rw [if_neg (by omega)]
  · split
    · rfl
    · exact ha.same hok hb hh (by omega)
theorem mt_comm (hok : okPlan p = true) (ha : Stb p a) (hb : Stb p b) {h : Nat} (hh : h < p.nH) : mtM p a b h = mtM p b a h := by
  unfold mtM
  split
  · rw [if_neg (by omega)]
  · split
    · rfl
    · exact (ha.same hok hb hh (by omega)).symm
theorem jn_rank (h : Nat) : rHd p h (jnM p a b h) ≤ rHd p h (a h) ∧ rHd p h (jnM p a b h) ≤ rHd p h (b h) := by
  unfold jnM
  split <;> omega
theorem mt_rank (h : Nat) : rHd p h (a h) ≤ rHd p h (mtM p a b h) ∧ rHd p h (b h) ≤ rHd p h (mtM p a b h) := by
  unfold mtM
  split <;> omega
theorem jn_mt_cnt (s : Int) : ∀ n, cnt (jnM p a b) s n + cnt (mtM p a b) s n = cnt a s n + cnt b s n := by
  intro n
  induction n with
  | zero => rfl
  | succ n ih =>
    simp only [cnt]
    unfold jnM mtM at *
    by_cases e : rHd p n (b n) < rHd p n (a n)
    · simp only [if_pos e]
      split <;> split <;> omega
    · simp only [if_neg e]
      split <;> split <;> omega

/-- Somebody who has s in b alone would rather have it: then a has it full, with better ones, and nobody who has s in a alone would rather have it. -/
theorem jn_le (hok : okPlan p = true) (ha : Stb p a) (hb : Stb p b) {s : Nat} (hs : s < p.nS) :
    cnt (jnM p a b) s p.nH ≤ cnt a s p.nH := by
  by_cases hB : ∃ x, x < p.nH ∧ b x = (s : Int) ∧ rHd p x (b x) < rHd p x (a x)
  · obtain ⟨x, hx, hbx, hlx⟩ := hB
    have hpx : possB p x s = true := by
      rcases hb.mat x hx with e | e
      · omega
      · rw [hbx] at e; exact e
    rw [hbx] at hlx
    obtain ⟨hfa, hba⟩ := ha.nob x s hx hs hpx hlx
    have : cnt (jnM p a b) s p.nH ≤ cnt b s p.nH := cnt_imp p.nH (fun h hh e => by
      rcases jn_or (p := p) (a := a) (b := b) h with e1 | e1
      · rw [e1] at e
        by_cases e2 : b h = (s : Int)
        · exact e2
        · exfalso
          have h1 := (jn_rank (p := p) (a := a) (b := b) h).2
          rw [e1] at h1
          have h2 : rHd p h (a h) < rHd p h (b h) := by
            rcases Int.lt_or_le (rHd p h (a h)) (rHd p h (b h)) with h3 | h3
            · exact h3
            · have := ha.same hok hb hh (by omega)
              rw [this] at e
              exact absurd e e2
          have hp : possB p h s = true := by
            rcases ha.mat h hh with e3 | e3
            · omega
            · rw [e] at e3; exact e3
          rw [e] at h2
          have h4 := (hb.nob h s hh hs hp h2).2 x hx hbx
          have h5 := hba h hh e
          omega
      · rw [e1] at e
        exact e)
    have := hb.cap s hs
    omega
  · refine cnt_imp p.nH (fun h hh e => ?_)
    rcases jn_or (p := p) (a := a) (b := b) h with e1 | e1
    · rw [e1] at e
      exact e
    · by_cases hlt : rHd p h (b h) < rHd p h (a h)
      · exact absurd ⟨h, hh, by rw [← e1]; exact e, hlt⟩ hB
      · have : jnM p a b h = a h := if_neg hlt
        rw [this] at e
        exact e
theorem jn_rng (hok : okPlan p = true) (ha : Stb p a) (hb : Stb p b) {h : Nat} (hh : h < p.nH) : -1 ≤ jnM p a b h ∧ jnM p a b h < (p.nS : Int) := by
  rcases jn_or (p := p) (a := a) (b := b) h with e | e
  · rw [e]; exact ha.rng hok hh
  · rw [e]; exact hb.rng hok hh
theorem jn_neg (hok : okPlan p = true) (ha : Stb p a) (hb : Stb p b) {h : Nat} (hh : h < p.nH) (e : jnM p a b h = -1) : a h = -1 ∧ b h = -1 := by
  have h1 := jn_rank (p := p) (a := a) (b := b) h
  rw [e, rHd_neg hok hh] at h1
  have h2 := ha.worst hok hh
  have h3 := hb.worst hok hh
  exact ⟨h2.2.1 (by omega), h3.2.1 (by omega)⟩
/-- In every shift as many hands. -/
theorem jn_cnt (hok : okPlan p = true) (ha : Stb p a) (hb : Stb p b) : (∀ s : Nat, s < p.nS → cnt (jnM p a b) s p.nH = cnt a s p.nH) ∧ cnt (jnM p a b) (-1) p.nH = cnt a (-1) p.nH := by
  have h1 := sum_cnt (m := a) (k := p.nS) p.nH (fun h hh => ha.rng hok hh)
  have h2 := sum_cnt (m := jnM p a b) (k := p.nS) p.nH (fun h hh => jn_rng hok ha hb hh)
  have h3 : cnt (jnM p a b) (-1) p.nH ≤ cnt a (-1) p.nH := cnt_imp p.nH (fun h hh e => (jn_neg hok ha hb hh e).1)
  have h4 := sumN_le p.nS (fun s hs => jn_le hok ha hb hs)
  refine ⟨fun s hs => sumN_eq (f := fun s => cnt (jnM p a b) (s : Int) p.nH) (g := fun s => cnt a (s : Int) p.nH) p.nS (fun s hs => jn_le hok ha hb hs) (by omega) s hs, by omega⟩
theorem jn_cnt2 (hok : okPlan p = true) (ha : Stb p a) (hb : Stb p b) (s : Nat) : cnt (jnM p a b) s p.nH = cnt (jnM p b a) s p.nH := cnt_congr (fun _ hh => jn_comm hok ha hb hh)
theorem jn_cntN (hok : okPlan p = true) (ha : Stb p a) (hb : Stb p b) : cnt (jnM p a b) (-1) p.nH = cnt (jnM p b a) (-1) p.nH := cnt_congr (fun _ hh => jn_comm hok ha hb hh)
theorem stb_cnt (hok : okPlan p = true) (ha : Stb p a) (hb : Stb p b) {s : Nat} (hs : s < p.nS) : cnt a s p.nH = cnt b s p.nH := by
  rw [← (jn_cnt hok ha hb).1 s hs, jn_cnt2 hok ha hb, (jn_cnt hok hb ha).1 s hs]
/-- Who has a shift in one has one in all. -/
theorem stb_none (hok : okPlan p = true) (ha : Stb p a) (hb : Stb p b) {h : Nat} (hh : h < p.nH) (e : a h = -1) : b h = -1 :=
  (jn_neg hok ha hb hh (cnt_back (a := jnM p a b) (b := a) (fun x hx e => (jn_neg hok ha hb hx e).1) (by rw [(jn_cnt hok ha hb).2]; exact Nat.le_refl _) h hh e)).2
/-- A shift with a free place has the same hands in all. -/
theorem stb_free (hok : okPlan p = true) (ha : Stb p a) (hb : Stb p b) {s : Nat} (hs : s < p.nS) (hf : (cnt a s p.nH : Int) < p.pl s) {h : Nat} (hh : h < p.nH) (e : a h = s) : b h = s := by
  have hc := stb_cnt hok ha hb hs
  have noA : ∀ x, x < p.nH → a x = (s : Int) → ¬ rHd p x (a x) < rHd p x (b x) := fun x hx e1 h1 => by
    have hp : possB p x s = true := by
      rcases ha.mat x hx with e3 | e3
      · omega
      · rw [e1] at e3; exact e3
    rw [e1] at h1
    have := (hb.nob x s hx hs hp h1).1
    omega
  have noB : ∀ x, x < p.nH → b x = (s : Int) → ¬ rHd p x (b x) < rHd p x (a x) := fun x hx e1 h1 => by
    have hp : possB p x s = true := by
      rcases hb.mat x hx with e3 | e3
      · omega
      · rw [e1] at e3; exact e3
    rw [e1] at h1
    have := (ha.nob x s hx hs hp h1).1
    omega
  have hj : ∀ x, x < p.nH → jnM p a b x = (s : Int) → a x = (s : Int) := fun x hx e1 => by
    rcases jn_or (p := p) (a := a) (b := b) x with e2 | e2
    · rw [e2] at e1; exact e1
    · by_cases hlt : rHd p x (b x) < rHd p x (a x)
      · exact absurd hlt (noB x hx (by rw [← e2]; exact e1))
      · have : jnM p a b x = a x := if_neg hlt
        rw [this] at e1
        exact e1
  have hjs := cnt_back hj (by rw [(jn_cnt hok ha hb).1 s hs]; exact Nat.le_refl _) h hh e
  have h1 := noA h hh e
  have h2 := (jn_rank (p := p) (a := a) (b := b) h).2
  rw [hjs, ← e] at h2
  have := ha.same hok hb hh (by omega)
  rw [← this]
  exact e
theorem jn_stb (hok : okPlan p = true) (ha : Stb p a) (hb : Stb p b) : Stb p (jnM p a b) := by
  refine ⟨fun h hh => ?_, fun s hs => ?_, fun h s hh hs hp hl => ?_⟩
  · rcases jn_or (p := p) (a := a) (b := b) h with e | e
    · rw [e]; exact ha.mat h hh
    · rw [e]; exact hb.mat h hh
  · rw [(jn_cnt hok ha hb).1 s hs]
    exact ha.cap s hs
  · have h1 := jn_rank (p := p) (a := a) (b := b) h
    obtain ⟨e1, e2⟩ := ha.nob h s hh hs hp (by omega)
    obtain ⟨-, e4⟩ := hb.nob h s hh hs hp (by omega)
    refine ⟨by rw [(jn_cnt hok ha hb).1 s hs]; exact e1, fun x hx e => ?_⟩
    rcases jn_or (p := p) (a := a) (b := b) x with e5 | e5
    · exact e2 x hx (by rw [← e5]; exact e)
    · exact e4 x hx (by rw [← e5]; exact e)
theorem mt_better (hok : okPlan p = true) (ha : Stb p a) (hb : Stb p b) {h s x : Nat} (hh : h < p.nH) (hs : s < p.nS) (hp : possB p h s = true) (hl : rHd p h s < rHd p h (a h)) (hx : x < p.nH) (e : mtM p a b x = s) : rSd p s x < rSd p s h := by
  obtain ⟨-, h2⟩ := ha.nob h s hh hs hp hl
  by_cases hxa : a x = (s : Int)
  · exact h2 x hx hxa
  have hbx : b x = (s : Int) := by
    rcases mt_or (p := p) (a := a) (b := b) x with e1 | e1
    · exact absurd (by rw [← e1]; exact e) hxa
    · rw [← e1]; exact e
  have hjx : jnM p a b x ≠ (s : Int) := by
    intro e1
    rcases jn_or (p := p) (a := a) (b := b) x with e2 | e2
    · exact hxa (by rw [← e2]; exact e1)
    · have h3 := mt_rank (p := p) (a := a) (b := b) x
      have h4 := jn_rank (p := p) (a := a) (b := b) x
      rw [e, ← hbx] at h3
      rw [e1, ← hbx] at h4
      have := ha.same hok hb hx (by omega)
      exact hxa (by rw [this]; exact hbx)
  obtain ⟨y, hy, hjy, hby⟩ : ∃ y, y < p.nH ∧ jnM p a b y = (s : Int) ∧ b y ≠ (s : Int) := by
    refine Classical.byContradiction fun hno => ?_
    have h3 : ∀ y, y < p.nH → jnM p a b y = (s : Int) → b y = (s : Int) := fun y hy e => Classical.byContradiction fun hne => hno ⟨y, hy, e, hne⟩
    have h4 := cnt_imp_lt p.nH h3 ⟨x, hx, hbx, hjx⟩
    have h5 := (jn_cnt hok ha hb).1 s hs
    have h6 := stb_cnt hok ha hb hs
    omega
  have hay : a y = (s : Int) := by
    rcases jn_or (p := p) (a := a) (b := b) y with e2 | e2
    · rw [← e2]; exact hjy
    · exact absurd (by rw [← e2]; exact hjy) hby
  have hpy : possB p y s = true := by
    rcases ha.mat y hy with e3 | e3
    · omega
    · rw [hay] at e3; exact e3
  have h7 := (jn_rank (p := p) (a := a) (b := b) y).2
  rw [hjy] at h7
  have h8 : rHd p y s < rHd p y (b y) := by
    rcases Int.lt_or_le (rHd p y s) (rHd p y (b y)) with h9 | h9
    · exact h9
    · have := ha.same hok hb hy (by rw [hay]; omega)
      exact absurd (by rw [← this]; exact hay) hby
  have h9 := (hb.nob y s hy hs hpy h8).2 x hx hbx
  have h10 := h2 y hy hay
  omega
theorem mt_stb (hok : okPlan p = true) (ha : Stb p a) (hb : Stb p b) : Stb p (mtM p a b) := by
  have hcm : ∀ s : Nat, s < p.nS → cnt (mtM p a b) s p.nH = cnt a s p.nH := fun s hs => by
    have h1 := jn_mt_cnt (p := p) (a := a) (b := b) (s : Int) p.nH
    have h2 := (jn_cnt hok ha hb).1 s hs
    have h3 := stb_cnt hok ha hb hs
    omega
  refine ⟨fun h hh => ?_, fun s hs => ?_, fun h s hh hs hp hl => ?_⟩
  · rcases mt_or (p := p) (a := a) (b := b) h with e | e
    · rw [e]; exact ha.mat h hh
    · rw [e]; exact hb.mat h hh
  · rw [hcm s hs]
    exact ha.cap s hs
  · rw [hcm s hs]
    rcases mt_or (p := p) (a := a) (b := b) h with e | e
    · rw [e] at hl
      exact ⟨(ha.nob h s hh hs hp hl).1, fun x hx e2 => mt_better hok ha hb hh hs hp hl hx e2⟩
    · rw [e] at hl
      refine ⟨by rw [stb_cnt hok ha hb hs]; exact (hb.nob h s hh hs hp hl).1, fun x hx e2 => ?_⟩
      rw [mt_comm hok ha hb hx] at e2
      exact mt_better hok hb ha hh hs hp hl hx e2
end

theorem matP_iff {p : PlanD} {m : Nat → Int} {h : Nat} : matP p m h = true ↔ m h = -1 ∨ (possB p h (m h) = true ∧ (cnt m (m h) p.nH : Int) ≤ p.pl (m h).toNat) := by
  unfold matP
  rw [Bool.or_eq_true_iff, Bool.and_eq_true_iff, decide_eq_true_iff, decide_eq_true_iff]
theorem cnt_some {m : Nat → Int} {s : Int} : ∀ {n : Nat}, 0 < cnt m s n → ∃ h, h < n ∧ m h = s := by
  intro n
  induction n with
  | zero => intro h; simp [cnt] at h
  | succ n ih =>
    intro h
    by_cases e : m n = s
    · exact ⟨n, by omega, e⟩
    · simp only [cnt, if_neg e] at h
      obtain ⟨x, hx, e2⟩ := ih h
      exact ⟨x, by omega, e2⟩
theorem blk_f_iff {p : PlanD} {m : Nat → Int} {h s : Nat} : blkB p m h s = false ↔ (possB p h s = true → rHd p h s < rHd p h (m h) → ¬ (cnt m (s : Int) p.nH : Int) < p.pl s ∧ ∀ x, x < p.nH → m x = (s : Int) → rSd p s x ≤ rSd p s h) := by
  unfold blkB
  rw [Bool.eq_false_iff, Ne, Bool.and_eq_true_iff, Bool.and_eq_true_iff, Bool.or_eq_true_iff, decide_eq_true_iff, decide_eq_true_iff, anyB_iff]
  constructor
  · intro hno hp hl
    refine ⟨fun hc => hno ⟨⟨hp, hl⟩, .inl hc⟩, fun x hx e => ?_⟩
    rcases Int.lt_or_le (rSd p s h) (rSd p s x) with h1 | h1
    · refine absurd ⟨⟨hp, hl⟩, .inr ⟨x, hx, ?_⟩⟩ hno
      unfold lessP
      rw [decide_eq_true e, Bool.true_and]
      exact decide_eq_true h1
    · exact h1
  · rintro hy ⟨⟨hp, hl⟩, hc | ⟨x, hx, hc⟩⟩
    · exact (hy hp hl).1 hc
    · unfold lessP at hc
      rw [Bool.and_eq_true_iff, decide_eq_true_iff, decide_eq_true_iff] at hc
      have := (hy hp hl).2 x hx hc.1
      unfold rSd at this
      omega
theorem stb_iff {p : PlanD} {m : Nat → Int} (hok : okPlan p = true) : (okMat p p.nH m = true ∧ stabB p m = true) ↔ Stb p m := by
  have hpl := (okPlan_of hok).2.1
  have hnP := (okPlan_of hok).1.2.2.2.2
  have hstab : stabB p m = true ↔ ∀ h, h < p.nH → ∀ s, s < p.nS → blkB p m h s = false := by
    unfold stabB
    rw [allB_iff]
    constructor
    · intro h1 h hh s hs
      have := allB_iff.1 (h1 h hh) s hs
      simpa using this
    · intro h1 h hh
      refine allB_iff.2 (fun s hs => ?_)
      rw [h1 h hh s hs]
      rfl
  have hmat : okMat p p.nH m = true ↔ ∀ h, h < p.nH → matP p m h = true := by
    unfold okMat
    rw [hok, Bool.true_and, decide_eq_true rfl, Bool.true_and, allB_iff]
  rw [hstab, hmat]
  constructor
  · rintro ⟨h1, h2⟩
    have hcap : ∀ s : Nat, s < p.nS → (cnt m s p.nH : Int) ≤ p.pl s := fun s hs => by
      rcases Nat.eq_zero_or_pos (cnt m s p.nH) with e | e
      · have := hpl s (by omega)
        omega
      · obtain ⟨x, hx, e2⟩ := cnt_some e
        rcases matP_iff.1 (h1 x hx) with e3 | ⟨-, e3⟩
        · omega
        · rw [e2, Int.toNat_natCast] at e3
          exact e3
    refine ⟨fun h hh => (matP_iff.1 (h1 h hh)).imp id And.left, hcap, fun h s hh hs hp hl => ?_⟩
    obtain ⟨h3, h4⟩ := blk_f_iff.1 (h2 h hh s hs) hp hl
    have h5 := hcap s hs
    refine ⟨by omega, fun x hx e => ?_⟩
    have h6 := h4 x hx e
    rcases matP_iff.1 (h1 x hx) with e3 | ⟨e3, -⟩
    · omega
    rw [e] at e3
    have : rSd p s x ≠ rSd p s h := fun h7 => by
      have := rSd_inj e3 hp h7
      subst this
      rw [e] at hl
      omega
    omega
  · intro hS
    refine ⟨fun h hh => matP_iff.2 ?_, fun h hh s hs => blk_f_iff.2 (fun hp hl => ?_)⟩
    · rcases hS.mat h hh with e | e
      · exact .inl e
      · refine .inr ⟨e, ?_⟩
        have h1 := poss_rg2 hok hh e
        obtain ⟨s, es⟩ : ∃ s : Nat, m h = s := ⟨(m h).toNat, by omega⟩
        rw [es, Int.toNat_natCast]
        exact hS.cap s (by omega)
    · obtain ⟨h1, h2⟩ := hS.nob h s hh hs hp hl
      exact ⟨by omega, fun x hx e => by have := h2 x hx e; omega⟩
end Go.Proofs.Ytiigcjcolpmafaa
