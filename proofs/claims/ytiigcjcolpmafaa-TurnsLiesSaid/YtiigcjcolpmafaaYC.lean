/- Part of the proof: YC. -/
import Derived.Test.YtiigcjcolpmafaaGvz
import Derived.Test.YtiigcjcolpmafaaFg
import Derived.Test.YtiigcjcolpmafaaRg
/- Stable matchings: two of them have equally many hands in every shift, and what hands have in either, the better and the worse, is stable. -/
namespace Go.Proofs.Ytiigcjcolpmafaa

def rHd (p : PlanD) (h : Nat) (s : Int) : Int := rkI (p.vH h) (p.LH h) s
def rSd (p : PlanD) (s h : Nat) : Int := rkI (p.vS s) (p.LS s) (h : Int)
theorem poss_if2 {p : PlanD} {h : Nat} {s : Int} : possB p h s = true ↔ 0 ≤ idxI (p.vH h) s (p.LH h) ∧ 0 ≤ idxI (p.vS s.toNat) (h : Int) (p.LS s.toNat) := by
  unfold possB
  rw [Bool.and_eq_true_iff, decide_eq_true_iff, decide_eq_true_iff]
theorem poss_rg2 {p : PlanD} {h : Nat} {s : Int} (hok : okPlan p = true) (hh : h < p.nH) (hs : possB p h s = true) : 0 ≤ s ∧ s < (p.nS : Int) :=
  RowOk.rng ((okPlan_of hok).2.2.1 h hh) (poss_if2.1 hs).1
theorem rkI_sm2 {f : Nat → Int} {L : Nat} {x : Int} (h : 0 ≤ idxI f x L) : rkI f L x = idxI f x L ∧ rkI f L x < L := by
  have := idxI_bd f x L
  unfold rkI
  rw [if_neg (by omega)]
  omega
theorem rkI_nn2 {f : Nat → Int} {L : Nat} {x : Int} (h : idxI f x L < 0) : rkI f L x = L := by
  have := idxI_bd f x L
  unfold rkI
  rw [if_pos (by omega)]
theorem rkI_lt {f : Nat → Int} {L : Nat} {x : Int} : rkI f L x < L ↔ 0 ≤ idxI f x L := by
  constructor
  · intro h
    rcases Int.lt_or_le (idxI f x L) 0 with h1 | h1
    · rw [rkI_nn2 h1] at h
      omega
    · exact h1
  · exact fun h => (rkI_sm2 h).2
/-- -1 is not listed. -/
theorem rHd_neg {p : PlanD} {h : Nat} (hok : okPlan p = true) (hh : h < p.nH) : rHd p h (-1) = p.LH h := by
  refine rkI_nn2 ?_
  rcases Int.lt_or_le (idxI (p.vH h) (-1) (p.LH h)) 0 with h1 | h1
  · exact h1
  · have := RowOk.rng ((okPlan_of hok).2.2.1 h hh) h1
    omega
theorem rHd_poss {p : PlanD} {h : Nat} {s : Int} (hs : possB p h s = true) : rHd p h s < p.LH h := rkI_lt.2 (poss_if2.1 hs).1
theorem rHd_inj {p : PlanD} {h : Nat} {s t : Int} (hs : possB p h s = true) (ht : possB p h t = true) (e : rHd p h s = rHd p h t) : s = t := rkI_inj (poss_if2.1 hs).1 (poss_if2.1 ht).1 e
theorem rSd_inj {p : PlanD} {s h x : Nat} (hs : possB p h s = true) (ht : possB p x s = true) (e : rSd p s h = rSd p s x) : h = x := by
  have := rkI_inj (poss_if2.1 hs).2 (poss_if2.1 ht).2 e
  omega

/-- A stable matching, in plain words. -/
structure Stb (p : PlanD) (m : Nat → Int) : Prop where
  mat : ∀ h, h < p.nH → m h = -1 ∨ possB p h (m h) = true
  cap : ∀ s : Nat, s < p.nS → (cnt m s p.nH : Int) ≤ p.pl s
  nob : ∀ h s : Nat, h < p.nH → s < p.nS → possB p h s = true → rHd p h s < rHd p h (m h) → (cnt m s p.nH : Int) = p.pl s ∧ ∀ x, x < p.nH → m x = s → rSd p s x < rSd p s h

theorem cnt_imp {a b : Nat → Int} {s t : Int} : ∀ n, (∀ h, h < n → a h = s → b h = t) → cnt a s n ≤ cnt b t n := by
  intro n
  induction n with
  | zero => intro _; exact Nat.le_refl _
  | succ n ih =>
    intro h
    have := ih (fun x hx => h x (by omega))
    have h1 := h n (by omega)
    simp only [cnt]
    by_cases e : a n = s
    · rw [if_pos e, if_pos (h1 e)]
      omega
    · rw [if_neg e]
      split <;> omega
theorem cnt_imp_lt {a b : Nat → Int} {s t : Int} : ∀ n, (∀ h, h < n → a h = s → b h = t) → (∃ h, h < n ∧ b h = t ∧ a h ≠ s) → cnt a s n < cnt b t n := by
  intro n
  induction n with
  | zero => rintro _ ⟨h, hh, -⟩; omega
  | succ n ih =>
    rintro h ⟨y, hy, hb, ha⟩
    have h1 := h n (by omega)
    simp only [cnt]
    by_cases e : y = n
    · subst e
      have := cnt_imp (a := a) (b := b) (s := s) (t := t) y (fun x hx => h x (by omega))
      rw [if_neg ha, if_pos hb]
      omega
    · have := ih (fun x hx => h x (by omega)) ⟨y, by omega, hb, ha⟩
      by_cases e2 : a n = s
      · rw [if_pos e2, if_pos (h1 e2)]
        omega
      · rw [if_neg e2]
        split <;> omega
/-- Equally many, and all of a's are b's: then all of b's are a's. -/
theorem cnt_back {a b : Nat → Int} {s t : Int} {n : Nat} (h : ∀ h, h < n → a h = s → b h = t) (he : cnt b t n ≤ cnt a s n) : ∀ h, h < n → b h = t → a h = s := by
  intro x hx e
  by_cases e2 : a x = s
  · exact e2
  · have := cnt_imp_lt n h ⟨x, hx, e, e2⟩
    omega
def sumN (f : Nat → Nat) : Nat → Nat
  | 0 => 0
  | k + 1 => sumN f k + f k
theorem sumN_one (f : Nat → Nat) (v : Int) : ∀ k, sumN (fun s => if v = (s : Int) then f s + 1 else f s) k = sumN f k + (if 0 ≤ v ∧ v < (k : Int) then 1 else 0) := by
  intro k
  induction k with
  | zero =>
    simp only [sumN]
    rw [if_neg (by omega)]
  | succ k ih =>
    simp only [sumN]
    rw [ih]
    by_cases e : v = (k : Int)
    · rw [if_pos e, if_neg (by omega), if_pos (by omega)]
      omega
    · rw [if_neg e]
      by_cases h : 0 ≤ v ∧ v < (k : Int)
      · rw [if_pos h, if_pos (by omega)]
        omega
      · rw [if_neg h, if_neg (by omega)]
        omega
theorem sumN_congr {f g : Nat → Nat} : ∀ k, (∀ s, s < k → f s = g s) → sumN f k = sumN g k := by
  intro k
  induction k with
  | zero => intro _; rfl
  | succ k ih => intro h; simp only [sumN]; rw [ih (fun s hs => h s (by omega)), h k (by omega)]
theorem sum_cnt {m : Nat → Int} {k : Nat} : ∀ n, (∀ h, h < n → -1 ≤ m h ∧ m h < (k : Int)) → sumN (fun s => cnt m (s : Int) n) k + cnt m (-1) n = n := by
  intro n
  induction n with
  | zero =>
    intro _
    have : ∀ k, sumN (fun _ => 0) k = 0 := by
      intro k
      induction k with
      | zero => rfl
      | succ k ih => simp only [sumN]; omega
    simp only [cnt]
    rw [this]
  | succ n ih =>
    intro h
    have h1 := ih (fun x hx => h x (by omega))
    have h2 := h n (by omega)
    simp only [cnt]
    rw [sumN_one (fun s => cnt m (s : Int) n) (m n) k]
    by_cases e : m n = -1
    · rw [if_neg (by omega), if_pos e]
      omega
    · rw [if_pos (by omega), if_neg e]
      omega
theorem sumN_le {f g : Nat → Nat} : ∀ k, (∀ s, s < k → f s ≤ g s) → sumN f k ≤ sumN g k := by
  intro k
  induction k with
  | zero => intro _; exact Nat.le_refl _
  | succ k ih =>
    intro h
    have := ih (fun s hs => h s (by omega))
    have := h k (by omega)
    simp only [sumN]
    omega
theorem sumN_eq {f g : Nat → Nat} : ∀ k, (∀ s, s < k → f s ≤ g s) → sumN g k ≤ sumN f k → ∀ s, s < k → f s = g s := by
  intro k
  induction k with
  | zero => intro _ _ s hs; omega
  | succ k ih =>
    intro h he s hs
    have h1 := sumN_le k (fun s hs => h s (by omega))
    have h2 := h k (by omega)
    simp only [sumN] at he
    by_cases e : s = k
    · subst e
      omega
    · exact ih (fun s hs => h s (by omega)) (by omega) s (by omega)

/-- What hands like more, and less, of what they have in a and in b. -/
def jnM (p : PlanD) (a b : Nat → Int) : Nat → Int := fun h => if rHd p h (b h) < rHd p h (a h) then b h else a h
def mtM (p : PlanD) (a b : Nat → Int) : Nat → Int := fun h => if rHd p h (b h) < rHd p h (a h) then a h else b h
section
variable {p : PlanD} {a b : Nat → Int}
theorem Stb.rng (hok : okPlan p = true) (ha : Stb p a) {h : Nat} (hh : h < p.nH) : -1 ≤ a h ∧ a h < (p.nS : Int) := by
  rcases ha.mat h hh with e | e
  · omega
  · have := poss_rg2 hok hh e
    omega
theorem Stb.worst (hok : okPlan p = true) (ha : Stb p a) {h : Nat} (hh : h < p.nH) : rHd p h (a h) ≤ p.LH h ∧ (rHd p h (a h) = p.LH h ↔ a h = -1) := by
  rcases ha.mat h hh with e | e
  · have := rHd_neg hok hh
    rw [e, this]
    simp
  · have h1 := rHd_poss e
    have h2 := poss_rg2 hok hh e
    constructor
    · omega
    · constructor <;> intro <;> omega
/-- With equal ranks both have the same. -/
theorem Stb.same (hok : okPlan p = true) (ha : Stb p a) (hb : Stb p b) {h : Nat} (hh : h < p.nH) (e : rHd p h (a h) = rHd p h (b h)) : a h = b h := by
  rcases ha.mat h hh with e1 | e1
  · have := (hb.worst hok hh).2.1 (by rw [← e]; exact (ha.worst hok hh).2.2 e1)
    rw [e1, this]
  · rcases hb.mat h hh with e2 | e2
    · have := (ha.worst hok hh).2.1 (by rw [e]; exact (hb.worst hok hh).2.2 e2)
      rw [e2, this]
    · exact rHd_inj e1 e2 e
theorem jn_or (h : Nat) : jnM p a b h = a h ∨ jnM p a b h = b h := by
  unfold jnM
  split
  · exact .inr rfl
  · exact .inl rfl
theorem mt_or (h : Nat) : mtM p a b h = a h ∨ mtM p a b h = b h := by
  unfold mtM
  split
  · exact .inl rfl
  · exact .inr rfl
theorem jn_comm (hok : okPlan p = true) (ha : Stb p a) (hb : Stb p b) {h : Nat} (hh : h < p.nH) : jnM p a b h = jnM p b a h := by
  unfold jnM
  split
  · rw [if_neg (by omega)]
  · split
    · rfl
    · exact ha.same hok hb hh (by omega)
theorem mt_comm (hok : okPlan p = true) (ha : Stb p a) (hb : Stb p b) {h : Nat} (hh : h < p.nH) : mtM p a b h = mtM p b a h := by
  unfold mtM
  split
  · rw [if_neg (by omega)]
  · split
    · rfl
    · exact (ha.same hok hb hh (by omega)).symm
theorem jn_rank (h : Nat) : rHd p h (jnM p a b h) ≤ rHd p h (a h) ∧ rHd p h (jnM p a b h) ≤ rHd p h (b h) := by
  unfold jnM
  split <;> omega
theorem mt_rank (h : Nat) : rHd p h (a h) ≤ rHd p h (mtM p a b h) ∧ rHd p h (b h) ≤ rHd p h (mtM p a b h) := by
  unfold mtM
  split <;> omega
theorem jn_mt_cnt (s : Int) : ∀ n, cnt (jnM p a b) s n + cnt (mtM p a b) s n = cnt a s n + cnt b s n := by
  intro n
  induction n with
  | zero => rfl
  | succ n ih =>
    simp only [cnt]
    unfold jnM mtM at *
    by_cases e : rHd p n (b n) < rHd p n (a n)
    · simp only [if_pos e]
      split <;> split <;> omega
    · simp only [if_neg e]
      split <;> split <;> omega

/-- Somebody who has s in b alone would rather have it: then a has it full, with better ones, and nobody who has s in a alone would rather have it. -/
theorem jn_le (hok : okPlan p = true) (ha : Stb p a) (hb : Stb p b) {s : Nat} (hs : s < p.nS) :
    cnt (jnM p a b) s p.nH ≤ cnt a s p.nH := by
  by_cases hB : ∃ x, x < p.nH ∧ b x = (s : Int) ∧ rHd p x (b x) < rHd p x (a x)
  · obtain ⟨x, hx, hbx, hlx⟩ := hB
    have hpx : possB p x s = true := by
      rcases hb.mat x hx with e | e
      · omega
      · rw [hbx] at e; exact e
    rw [hbx] at hlx
    obtain ⟨hfa, hba⟩ := ha.nob x s hx hs hpx hlx
    have : cnt (jnM p a b) s p.nH ≤ cnt b s p.nH := cnt_imp p.nH (fun h hh e => by
      rcases jn_or (p := p) (a := a) (b := b) h with e1 | e1
      · rw [e1] at e
        by_cases e2 : b h = (s : Int)
        · exact e2
        · exfalso
          have h1 := (jn_rank (p := p) (a := a) (b := b) h).2
          rw [e1] at h1
          have h2 : rHd p h (a h) < rHd p h (b h) := by
            rcases Int.lt_or_le (rHd p h (a h)) (rHd p h (b h)) with h3 | h3
            · exact h3
            · have := ha.same hok hb hh (by omega)
              rw [this] at e
              exact absurd e e2
          have hp : possB p h s = true := by
            rcases ha.mat h hh with e3 | e3
            · omega
            · rw [e] at e3; exact e3
          rw [e] at h2
          have h4 := (hb.nob h s hh hs hp h2).2 x hx hbx
          have h5 := hba h hh e
          omega
      · rw [e1] at e
        exact e)
    have := hb.cap s hs
    omega
  · refine cnt_imp p.nH (fun h hh e => ?_)
    rcases jn_or (p := p) (a := a) (b := b) h with e1 | e1
    · rw [e1] at e
      exact e
    · by_cases hlt : rHd p h (b h) < rHd p h (a h)
      · exact absurd ⟨h, hh, by rw [← e1]; exact e, hlt⟩ hB
      · have : jnM p a b h = a h := if_neg hlt
        rw [this] at e
        exact e
theorem jn_rng (hok : okPlan p = true) (ha : Stb p a) (hb : Stb p b) {h : Nat} (hh : h < p.nH) : -1 ≤ jnM p a b h ∧ jnM p a b h < (p.nS : Int) := by
  rcases jn_or (p := p) (a := a) (b := b) h with e | e
  · rw [e]; exact ha.rng hok hh
  · rw [e]; exact hb.rng hok hh
theorem jn_neg (hok : okPlan p = true) (ha : Stb p a) (hb : Stb p b) {h : Nat} (hh : h < p.nH) (e : jnM p a b h = -1) : a h = -1 ∧ b h = -1 := by
  have h1 := jn_rank (p := p) (a := a) (b := b) h
  rw [e, rHd_neg hok hh] at h1
  have h2 := ha.worst hok hh
  have h3 := hb.worst hok hh
  exact ⟨h2.2.1 (by omega), h3.2.1 (by omega)⟩
/-- In every shift as many hands. -/
theorem jn_cnt (hok : okPlan p = true) (ha : Stb p a) (hb : Stb p b) : (∀ s : Nat, s < p.nS → cnt (jnM p a b) s p.nH = cnt a s p.nH) ∧ cnt (jnM p a b) (-1) p.nH = cnt a (-1) p.nH := by
  have h1 := sum_cnt (m := a) (k := p.nS) p.nH (fun h hh => ha.rng hok hh)
  have h2 := sum_cnt (m := jnM p a b) (k := p.nS) p.nH (fun h hh => jn_rng hok ha hb hh)
  have h3 : cnt (jnM p a b) (-1) p.nH ≤ cnt a (-1) p.nH := cnt_imp p.nH (fun h hh e => (jn_neg hok ha hb hh e).1)
  have h4 := sumN_le p.nS (fun s hs => jn_le hok ha hb hs)
  refine ⟨fun s hs => sumN_eq (f := fun s => cnt (jnM p a b) (s : Int) p.nH) (g := fun s => cnt a (s : Int) p.nH) p.nS (fun s hs => jn_le hok ha hb hs) (by omega) s hs, by omega⟩
theorem jn_cnt2 (hok : okPlan p = true) (ha : Stb p a) (hb : Stb p b) (s : Nat) : cnt (jnM p a b) s p.nH = cnt (jnM p b a) s p.nH := cnt_congr (fun _ hh => jn_comm hok ha hb hh)
theorem jn_cntN (hok : okPlan p = true) (ha : Stb p a) (hb : Stb p b) : cnt (jnM p a b) (-1) p.nH = cnt (jnM p b a) (-1) p.nH := cnt_congr (fun _ hh => jn_comm hok ha hb hh)
theorem stb_cnt (hok : okPlan p = true) (ha : Stb p a) (hb : Stb p b) {s : Nat} (hs : s < p.nS) : cnt a s p.nH = cnt b s p.nH := by
  rw [← (jn_cnt hok ha hb).1 s hs, jn_cnt2 hok ha hb, (jn_cnt hok hb ha).1 s hs]
/-- Who has a shift in one has one in all. -/
theorem stb_none (hok : okPlan p = true) (ha : Stb p a) (hb : Stb p b) {h : Nat} (hh : h < p.nH) (e : a h = -1) : b h = -1 :=
  (jn_neg hok ha hb hh (cnt_back (a := jnM p a b) (b := a) (fun x hx e => (jn_neg hok ha hb hx e).1) (by rw [(jn_cnt hok ha hb).2]; exact Nat.le_refl _) h hh e)).2
/-- A shift with a free place has the same hands in all. -/
theorem stb_free (hok : okPlan p = true) (ha : Stb p a) (hb : Stb p b) {s : Nat} (hs : s < p.nS) (hf : (cnt a s p.nH : Int) < p.pl s) {h : Nat} (hh : h < p.nH) (e : a h = s) : b h = s := by
  have hc := stb_cnt hok ha hb hs
  have noA : ∀ x, x < p.nH → a x = (s : Int) → ¬ rHd p x (a x) < rHd p x (b x) := fun x hx e1 h1 => by
    have hp : possB p x s = true := by
      rcases ha.mat x hx with e3 | e3
      · omega
      · rw [e1] at e3; exact e3
    rw [e1] at h1
    have := (hb.nob x s hx hs hp h1).1
    omega
  have noB : ∀ x, x < p.nH → b x = (s : Int) → ¬ rHd p x (b x) < rHd p x (a x) := fun x hx e1 h1 => by
    have hp : possB p x s = true := by
      rcases hb.mat x hx with e3 | e3
      · omega
      · rw [e1] at e3; exact e3
    rw [e1] at h1
    have := (ha.nob x s hx hs hp h1).1
    omega
  have hj : ∀ x, x < p.nH → jnM p a b x = (s : Int) → a x = (s : Int) := fun x hx e1 => by
    rcases jn_or (p := p) (a := a) (b := b) x with e2 | e2
    · rw [e2] at e1; exact e1
    · by_cases hlt : rHd p x (b x) < rHd p x (a x)
      · exact absurd hlt (noB x hx (by rw [← e2]; exact e1))
      · have : jnM p a b x = a x := if_neg hlt
        rw [this] at e1
        exact e1
  have hjs := cnt_back hj (by rw [(jn_cnt hok ha hb).1 s hs]; exact Nat.le_refl _) h hh e
  have h1 := noA h hh e
  have h2 := (jn_rank (p := p) (a := a) (b := b) h).2
  rw [hjs, ← e] at h2
  have := ha.same hok hb hh (by omega)
  rw [← this]
  exact e
theorem jn_stb (hok : okPlan p = true) (ha : Stb p a) (hb : Stb p b) : Stb p (jnM p a b) := by
  refine ⟨fun h hh => ?_, fun s hs => ?_, fun h s hh hs hp hl => ?_⟩
  · rcases jn_or (p := p) (a := a) (b := b) h with e | e
    · rw [e]; exact ha.mat h hh
    · rw [e]; exact hb.mat h hh
  · rw [(jn_cnt hok ha hb).1 s hs]
    exact ha.cap s hs
  · have h1 := jn_rank (p := p) (a := a) (b := b) h
    obtain ⟨e1, e2⟩ := ha.nob h s hh hs hp (by omega)
    obtain ⟨-, e4⟩ := hb.nob h s hh hs hp (by omega)
    refine ⟨by rw [(jn_cnt hok ha hb).1 s hs]; exact e1, fun x hx e => ?_⟩
    rcases jn_or (p := p) (a := a) (b := b) x with e5 | e5
    · exact e2 x hx (by rw [← e5]; exact e)
    · exact e4 x hx (by rw [← e5]; exact e)
theorem mt_better (hok : okPlan p = true) (ha : Stb p a) (hb : Stb p b) {h s x : Nat} (hh : h < p.nH) (hs : s < p.nS) (hp : possB p h s = true) (hl : rHd p h s < rHd p h (a h)) (hx : x < p.nH) (e : mtM p a b x = s) : rSd p s x < rSd p s h := by
  obtain ⟨-, h2⟩ := ha.nob h s hh hs hp hl
  by_cases hxa : a x = (s : Int)
  · exact h2 x hx hxa
  have hbx : b x = (s : Int) := by
    rcases mt_or (p := p) (a := a) (b := b) x with e1 | e1
    · exact absurd (by rw [← e1]; exact e) hxa
    · rw [← e1]; exact e
  have hjx : jnM p a b x ≠ (s : Int) := by
    intro e1
    rcases jn_or (p := p) (a := a) (b := b) x with e2 | e2
    · exact hxa (by rw [← e2]; exact e1)
    · have h3 := mt_rank (p := p) (a := a) (b := b) x
      have h4 := jn_rank (p := p) (a := a) (b := b) x
      rw [e, ← hbx] at h3
      rw [e1, ← hbx] at h4
      have := ha.same hok hb hx (by omega)
      exact hxa (by rw [this]; exact hbx)
  obtain ⟨y, hy, hjy, hby⟩ : ∃ y, y < p.nH ∧ jnM p a b y = (s : Int) ∧ b y ≠ (s : Int) := by
    refine Classical.byContradiction fun hno => ?_
    have h3 : ∀ y, y < p.nH → jnM p a b y = (s : Int) → b y = (s : Int) := fun y hy e => Classical.byContradiction fun hne => hno ⟨y, hy, e, hne⟩
    have h4 := cnt_imp_lt p.nH h3 ⟨x, hx, hbx, hjx⟩
    have h5 := (jn_cnt hok ha hb).1 s hs
    have h6 := stb_cnt hok ha hb hs
    omega
  have hay : a y = (s : Int) := by
    rcases jn_or (p := p) (a := a) (b := b) y with e2 | e2
    · rw [← e2]; exact hjy
    · exact absurd (by rw [← e2]; exact hjy) hby
  have hpy : possB p y s = true := by
    rcases ha.mat y hy with e3 | e3
    · omega
    · rw [hay] at e3; exact e3
  have h7 := (jn_rank (p := p) (a := a) (b := b) y).2
  rw [hjy] at h7
  have h8 : rHd p y s < rHd p y (b y) := by
    rcases Int.lt_or_le (rHd p y s) (rHd p y (b y)) with h9 | h9
    · exact h9
    · have := ha.same hok hb hy (by rw [hay]; omega)
      exact absurd (by rw [← this]; exact hay) hby
  have h9 := (hb.nob y s hy hs hpy h8).2 x hx hbx
  have h10 := h2 y hy hay
  omega
theorem mt_stb (hok : okPlan p = true) (ha : Stb p a) (hb : Stb p b) : Stb p (mtM p a b) := by
  have hcm : ∀ s : Nat, s < p.nS → cnt (mtM p a b) s p.nH = cnt a s p.nH := fun s hs => by
    have h1 := jn_mt_cnt (p := p) (a := a) (b := b) (s : Int) p.nH
    have h2 := (jn_cnt hok ha hb).1 s hs
    have h3 := stb_cnt hok ha hb hs
    omega
  refine ⟨fun h hh => ?_, fun s hs => ?_, fun h s hh hs hp hl => ?_⟩
  · rcases mt_or (p := p) (a := a) (b := b) h with e | e
    · rw [e]; exact ha.mat h hh
    · rw [e]; exact hb.mat h hh
  · rw [hcm s hs]
    exact ha.cap s hs
  · rw [hcm s hs]
    rcases mt_or (p := p) (a := a) (b := b) h with e | e
    · rw [e] at hl
      exact ⟨(ha.nob h s hh hs hp hl).1, fun x hx e2 => mt_better hok ha hb hh hs hp hl hx e2⟩
    · rw [e] at hl
      refine ⟨by rw [stb_cnt hok ha hb hs]; exact (hb.nob h s hh hs hp hl).1, fun x hx e2 => ?_⟩
      rw [mt_comm hok ha hb hx] at e2
      exact mt_better hok hb ha hh hs hp hl hx e2
end

theorem matP_iff {p : PlanD} {m : Nat → Int} {h : Nat} : matP p m h = true ↔ m h = -1 ∨ (possB p h (m h) = true ∧ (cnt m (m h) p.nH : Int) ≤ p.pl (m h).toNat) := by
  unfold matP
  rw [Bool.or_eq_true_iff, Bool.and_eq_true_iff, decide_eq_true_iff, decide_eq_true_iff]
theorem cnt_some {m : Nat → Int} {s : Int} : ∀ {n : Nat}, 0 < cnt m s n → ∃ h, h < n ∧ m h = s := by
  intro n
  induction n with
  | zero => intro h; simp [cnt] at h
  | succ n ih =>
    intro h
    by_cases e : m n = s
    · exact ⟨n, by omega, e⟩
    · simp only [cnt, if_neg e] at h
      obtain ⟨x, hx, e2⟩ := ih h
      exact ⟨x, by omega, e2⟩
theorem blk_f_iff {p : PlanD} {m : Nat → Int} {h s : Nat} : blkB p m h s = false ↔ (possB p h s = true → rHd p h s < rHd p h (m h) → ¬ (cnt m (s : Int) p.nH : Int) < p.pl s ∧ ∀ x, x < p.nH → m x = (s : Int) → rSd p s x ≤ rSd p s h) := by
  unfold blkB
  rw [Bool.eq_false_iff, Ne, Bool.and_eq_true_iff, Bool.and_eq_true_iff, Bool.or_eq_true_iff, decide_eq_true_iff, decide_eq_true_iff, anyB_iff]
  constructor
  · intro hno hp hl
    refine ⟨fun hc => hno ⟨⟨hp, hl⟩, .inl hc⟩, fun x hx e => ?_⟩
    rcases Int.lt_or_le (rSd p s h) (rSd p s x) with h1 | h1
    · refine absurd ⟨⟨hp, hl⟩, .inr ⟨x, hx, ?_⟩⟩ hno
      unfold lessP
      rw [decide_eq_true e, Bool.true_and]
      exact decide_eq_true h1
    · exact h1
  · rintro hy ⟨⟨hp, hl⟩, hc | ⟨x, hx, hc⟩⟩
    · exact (hy hp hl).1 hc
    · unfold lessP at hc
      rw [Bool.and_eq_true_iff, decide_eq_true_iff, decide_eq_true_iff] at hc
      have := (hy hp hl).2 x hx hc.1
      unfold rSd at this
      omega
theorem stb_iff {p : PlanD} {m : Nat → Int} (hok : okPlan p = true) : (okMat p p.nH m = true ∧ stabB p m = true) ↔ Stb p m := by
  have hpl := (okPlan_of hok).2.1
  have hnP := (okPlan_of hok).1.2.2.2.2
  have hstab : stabB p m = true ↔ ∀ h, h < p.nH → ∀ s, s < p.nS → blkB p m h s = false := by
    unfold stabB
    rw [allB_iff]
    constructor
    · intro h1 h hh s hs
      have := allB_iff.1 (h1 h hh) s hs
      simpa using this
    · intro h1 h hh
      refine allB_iff.2 (fun s hs => ?_)
      rw [h1 h hh s hs]
      rfl
  have hmat : okMat p p.nH m = true ↔ ∀ h, h < p.nH → matP p m h = true := by
    unfold okMat
    rw [hok, Bool.true_and, decide_eq_true rfl, Bool.true_and, allB_iff]
  rw [hstab, hmat]
  constructor
  · rintro ⟨h1, h2⟩
    have hcap : ∀ s : Nat, s < p.nS → (cnt m s p.nH : Int) ≤ p.pl s := fun s hs => by
      rcases Nat.eq_zero_or_pos (cnt m s p.nH) with e | e
      · have := hpl s (by omega)
        omega
      · obtain ⟨x, hx, e2⟩ := cnt_some e
        rcases matP_iff.1 (h1 x hx) with e3 | ⟨-, e3⟩
        · omega
        · rw [e2, Int.toNat_natCast] at e3
          exact e3
    refine ⟨fun h hh => (matP_iff.1 (h1 h hh)).imp id And.left, hcap, fun h s hh hs hp hl => ?_⟩
    obtain ⟨h3, h4⟩ := blk_f_iff.1 (h2 h hh s hs) hp hl
    have h5 := hcap s hs
    refine ⟨by omega, fun x hx e => ?_⟩
    have h6 := h4 x hx e
    rcases matP_iff.1 (h1 x hx) with e3 | ⟨e3, -⟩
    · omega
    rw [e] at e3
    have : rSd p s x ≠ rSd p s h := fun h7 => by
      have := rSd_inj e3 hp h7
      subst this
      rw [e] at hl
      omega
    omega
  · intro hS
    refine ⟨fun h hh => matP_iff.2 ?_, fun h hh s hs => blk_f_iff.2 (fun hp hl => ?_)⟩
    · rcases hS.mat h hh with e | e
      · exact .inl e
      · refine .inr ⟨e, ?_⟩
        have h1 := poss_rg2 hok hh e
        obtain ⟨s, es⟩ : ∃ s : Nat, m h = s := ⟨(m h).toNat, by omega⟩
        rw [es, Int.toNat_natCast]
        exact hS.cap s (by omega)
    · obtain ⟨h1, h2⟩ := hS.nob h s hh hs hp hl
      exact ⟨by omega, fun x hx e => by have := h2 x hx e; omega⟩
end Go.Proofs.Ytiigcjcolpmafaa

/- Asking in turn ends, in the stable matching that is best for the hands. -/
namespace Go.Proofs.Ytiigcjcolpmafaa

theorem idxI_self {f : Nat → Int} {L k j : Nat} (h : RowOk f L k) (hj : j < L) : idxI f (f j) L = j := by
  refine idxI_some (fun i hi => ?_) rfl L hj
  have h1 := (h.2 j hj).2.2
  rcases idxI_cases f (f j) j with ⟨-, h2⟩ | ⟨k2, hk2, e, -⟩
  · exact h2 i hi
  · omega
theorem rHd_self {p : PlanD} {x j : Nat} (hok : okPlan p = true) (hx : x < p.nH) (hj : j < p.LH x) : rHd p x (p.vH x j) = j := by
  have h1 := idxI_self ((okPlan_of hok).2.2.1 x hx) hj
  unfold rHd
  rw [(rkI_sm2 (by omega)).1, h1]
theorem rHd_nn (p : PlanD) (x : Nat) (s : Int) : 0 ≤ rHd p x s := (rkI_bd _ _ _).1
theorem rHd_at {p : PlanD} {x j : Nat} {s : Int} (hs : 0 ≤ idxI (p.vH x) s (p.LH x)) (e : rHd p x s = j) : p.vH x j = s := by
  rcases idxI_cases (p.vH x) s (p.LH x) with ⟨e1, -⟩ | ⟨k, hk, e1, e2, -⟩
  · omega
  · unfold rHd at e
    rw [(rkI_sm2 hs).1] at e
    have : k = j := by omega
    rw [← this, e2]
theorem cnt_del {m : Nat → Int} {x n : Nat} {s : Int} (hx : x < n) (e : m x = s) (hs : s ≠ -1) : cnt (upd m x (-1)) s n + 1 = cnt m s n := by
  have h1 := cnt_upd (m := upd m x (-1)) (s := s) (t := s) (n := n) hx (by rw [upd_at]; omega)
  rw [if_pos rfl] at h1
  rw [← h1]
  refine cnt_congr (fun y _ => ?_)
  unfold upd
  split
  · rename_i e2
    rw [e2, e]
  · rfl
theorem cnt_del_ne {m : Nat → Int} {x n : Nat} {t : Int} (hx : x < n) (e : m x ≠ t) (ht : t ≠ -1) : cnt (upd m x (-1)) t n = cnt m t n := by
  have h1 := cnt_upd (m := m) (s := -1) (t := t) (n := n) hx e
  rw [if_neg (by omega)] at h1
  omega

structure DaI (p : PlanD) (m a : Nat → Int) : Prop where
  ask : ∀ x, x < p.nH → 0 ≤ a x ∧ a x ≤ p.LH x
  has : ∀ x, x < p.nH → m x = -1 ∨ (0 < a x ∧ rHd p x (m x) = a x - 1 ∧ possB p x (m x) = true)
  cap : ∀ s : Nat, s < p.nS → (cnt m s p.nH : Int) ≤ p.pl s
  ref : ∀ x s : Nat, x < p.nH → s < p.nS → possB p x s = true → m x ≠ s → rHd p x s < a x → (cnt m s p.nH : Int) = p.pl s ∧ ∀ y, y < p.nH → m y = s → rSd p s y < rSd p s x

theorem DaR.daI {p : PlanD} {m a : Nat → Int} (hok : okPlan p = true) (h : DaR p m a) : DaI p m a := by
  have hpl := (okPlan_of hok).2.1
  have hnP := (okPlan_of hok).1.2.2.2.2
  induction h with
  | start =>
    refine ⟨fun x _ => ⟨Int.le_refl _, by omega⟩, fun _ _ => .inl rfl, fun s hs => ?_, fun x s hx hs hp hm hl => ?_⟩
    · rcases Nat.eq_zero_or_pos (cnt (fun _ => -1) (s : Int) p.nH) with e | e
      · have := hpl s (by omega)
        omega
      · obtain ⟨x, -, e2⟩ := cnt_some e
        have e2 : (-1 : Int) = s := e2
        omega
    · have := rHd_nn p x s
      omega
  | @skip m a h h1 h2 h3 h4 h5 ih =>
    have hah := (ih.ask h h2).1
    obtain ⟨j, hj⟩ : ∃ j : Nat, a h = j := ⟨(a h).toNat, by omega⟩
    refine ⟨fun x hx => ?_, fun x hx => ?_, ih.cap, fun x s hx hs hp hm hl => ?_⟩
    · by_cases e : x = h
      · subst e
        rw [upd_at]
        omega
      · rw [upd_ne a _ e]
        exact ih.ask x hx
    · by_cases e : x = h
      · exact .inl (by rw [e]; exact h3)
      · rw [upd_ne a _ e]
        exact ih.has x hx
    · by_cases e : x = h
      · subst e
        rw [upd_at] at hl
        rcases Int.lt_or_le (rHd p x s) (a x) with h6 | h6
        · exact ih.ref x s hx hs hp hm h6
        · have e2 := rHd_at (j := j) (poss_if2.1 hp).1 (by omega)
          rw [hj, Int.toNat_natCast, e2, hp] at h5
          cases h5
      · rw [upd_ne a _ e] at hl
        exact ih.ref x s hx hs hp hm hl
  | @take m a h s h1 h2 h3 h4 h5 h6 h7 ih =>
    have hah := (ih.ask h h2).1
    have hsr := poss_rg2 hok h2 h6
    obtain ⟨j, hj⟩ : ∃ j : Nat, a h = j := ⟨(a h).toNat, by omega⟩
    rw [hj, Int.toNat_natCast] at h5
    have hrk : rHd p h s = j := by
      rw [← h5]
      exact rHd_self hok h2 (by omega)
    have hc : ∀ t : Nat, cnt (upd m h (s : Int)) (t : Int) p.nH = cnt m t p.nH + (if (s : Int) = t then 1 else 0) := fun t => cnt_upd h2 (by rw [h3]; omega)
    refine ⟨fun x hx => ?_, fun x hx => ?_, fun t ht => ?_, fun x t hx ht hp hm hl => ?_⟩
    · by_cases e : x = h
      · subst e
        rw [upd_at]
        omega
      · rw [upd_ne a _ e]
        exact ih.ask x hx
    · by_cases e : x = h
      · subst e
        rw [upd_at, upd_at]
        exact .inr ⟨by omega, by omega, h6⟩
      · rw [upd_ne a _ e, upd_ne m _ e]
        exact ih.has x hx
    · by_cases e : t = s
      · subst e
        exact h7
      · rw [hc t, if_neg (by omega)]
        exact ih.cap t ht
    · by_cases e : x = h
      · subst e
        rw [upd_at] at hm hl
        have hts : t ≠ s := fun e => hm (by rw [e])
        have hlt : rHd p x t < a x := by
          rcases Int.lt_or_le (rHd p x t) (a x) with h8 | h8
          · exact h8
          · have e2 := rHd_at (j := j) (poss_if2.1 hp).1 (by omega)
            rw [h5] at e2
            omega
        obtain ⟨g1, g2⟩ := ih.ref x t hx ht hp (by omega) hlt
        refine ⟨by rw [hc t, if_neg (by omega)]; exact g1, fun y hy e2 => ?_⟩
        by_cases e3 : y = x
        · subst e3
          rw [upd_at] at e2
          omega
        · rw [upd_ne m _ e3] at e2
          exact g2 y hy e2
      · rw [upd_ne m _ e] at hm
        rw [upd_ne a _ e] at hl
        obtain ⟨g1, g2⟩ := ih.ref x t hx ht hp hm hl
        by_cases ets : t = s
        · subst ets
          have := hc t
          rw [if_pos rfl] at this
          omega
        · refine ⟨by rw [hc t, if_neg (by omega)]; exact g1, fun y hy e2 => ?_⟩
          by_cases e3 : y = h
          · subst e3
            rw [upd_at] at e2
            omega
          · rw [upd_ne m _ e3] at e2
            exact g2 y hy e2
  | @swap m a h s z h1 h2 h3 h4 h5 h6 h7 h8 h9 h10 ih =>
    have hah := (ih.ask h h2).1
    have hsr := poss_rg2 hok h2 h6
    obtain ⟨j, hj⟩ : ∃ j : Nat, a h = j := ⟨(a h).toNat, by omega⟩
    rw [hj, Int.toNat_natCast] at h5
    have hrk : rHd p h s = j := by
      rw [← h5]
      exact rHd_self hok h2 (by omega)
    have hc : ∀ t : Nat, cnt (upd m h (s : Int)) (t : Int) p.nH = cnt m t p.nH + (if (s : Int) = t then 1 else 0) := fun t => cnt_upd h2 (by rw [h3]; omega)
    have hcs := hc s
    rw [if_pos rfl] at hcs
    have hd := cnt_del (m := upd m h (s : Int)) h8 h9 (by omega)
    have hdn : ∀ t : Nat, t ≠ s → cnt (upd (upd m h (s : Int)) z (-1)) (t : Int) p.nH = cnt m t p.nH := fun t ht => by
      rw [cnt_del_ne h8 (by rw [h9]; omega) (by omega), hc t, if_neg (by omega)]
      rfl
    have hcap := ih.cap s (by omega)
    have hposs : ∀ y, y < p.nH → upd m h (s : Int) y = s → possB p y s = true := fun y hy e => by
      by_cases e2 : y = h
      · rw [e2]; exact h6
      · rw [upd_ne m _ e2] at e
        rcases ih.has y hy with e3 | ⟨-, -, e3⟩
        · omega
        · rw [e] at e3
          exact e3
    have hm' : ∀ y, upd (upd m h (s : Int)) z (-1) y = if y = z then -1 else upd m h (s : Int) y := fun y => rfl
    refine ⟨fun x hx => ?_, fun x hx => ?_, fun t ht => ?_, fun x t hx ht hp hm hl => ?_⟩
    · by_cases e : x = h
      · subst e
        rw [upd_at]
        omega
      · rw [upd_ne a _ e]
        exact ih.ask x hx
    · rw [hm' x]
      by_cases ez : x = z
      · rw [if_pos ez]
        exact .inl rfl
      · rw [if_neg ez]
        by_cases e : x = h
        · subst e
          rw [upd_at, upd_at]
          exact .inr ⟨by omega, by omega, h6⟩
        · rw [upd_ne a _ e, upd_ne m _ e]
          exact ih.has x hx
    · by_cases e : t = s
      · subst e
        omega
      · rw [hdn t e]
        exact ih.cap t ht
    · rw [hm' x] at hm
      by_cases ets : t = s
      · subst ets
        refine ⟨by omega, fun y hy e => ?_⟩
        rw [hm' y] at e
        by_cases eyz : y = z
        · rw [if_pos eyz] at e
          omega
        rw [if_neg eyz] at e
        by_cases exz : x = z
        · subst exz
          have g1 := h10 y hy e
          have g2 : rSd p t y ≠ rSd p t x := fun e2 => eyz (rSd_inj (hposs y hy e) (hposs x hx h9) e2)
          have g1 : rSd p t y ≤ rSd p t x := g1
          omega
        · rw [if_neg exz] at hm
          have exh : x ≠ h := fun e2 => hm (by rw [e2, upd_at])
          rw [upd_ne m _ exh] at hm
          rw [upd_ne a _ exh] at hl
          obtain ⟨-, g2⟩ := ih.ref x t hx ht hp hm hl
          by_cases eyh : y = h
          · subst eyh
            have g3 := g2 z h8 (by rw [upd_ne m _ (fun e => eyz e.symm)] at h9; exact h9)
            have g4 : rSd p t y ≤ rSd p t z := h10 y hy e
            omega
          · rw [upd_ne m _ eyh] at e
            exact g2 y hy e
      · rw [hdn t ets]
        have hb : ∀ y, y < p.nH → upd (upd m h (s : Int)) z (-1) y = (t : Int) → m y = t := fun y hy e => by
          rw [hm' y] at e
          by_cases eyz : y = z
          · rw [if_pos eyz] at e
            omega
          · rw [if_neg eyz] at e
            by_cases eyh : y = h
            · subst eyh
              rw [upd_at] at e
              omega
            · rw [upd_ne m _ eyh] at e
              exact e
        have key : m x ≠ t ∧ rHd p x t < a x := by
          by_cases exh : x = h
          · subst exh
            rw [upd_at] at hl
            refine ⟨by omega, ?_⟩
            rcases Int.lt_or_le (rHd p x t) (a x) with h11 | h11
            · exact h11
            · have e2 := rHd_at (j := j) (poss_if2.1 hp).1 (by omega)
              rw [h5] at e2
              omega
          · rw [upd_ne a _ exh] at hl
            refine ⟨?_, hl⟩
            by_cases exz : x = z
            · subst exz
              rw [upd_ne m _ exh] at h9
              omega
            · rw [if_neg exz, upd_ne m _ exh] at hm
              exact hm
        obtain ⟨g1, g2⟩ := ih.ref x t hx ht hp key.1 key.2
        exact ⟨g1, fun y hy e => g2 y hy (hb y hy e)⟩

/-- What no better offer blocks. -/
structure Unb (p : PlanD) (u : Nat → Int) : Prop where
  cap : ∀ s : Nat, s < p.nS → (cnt u s p.nH : Int) ≤ p.pl s
  nob : ∀ y s x : Nat, y < p.nH → s < p.nS → x < p.nH → possB p y s = true → rHd p y s < rHd p y (u y) → u x = s → rSd p s x < rSd p s y
  mat : ∀ y, y < p.nH → 0 ≤ idxI (p.vH y) (u y) (p.LH y) → possB p y (u y) = true
theorem Stb.unb {p : PlanD} {u : Nat → Int} (hok : okPlan p = true) (h : Stb p u) : Unb p u :=
  ⟨h.cap, fun y s x hy hs hx hp hl e => (h.nob y s hy hs hp hl).2 x hx e, fun y hy hi => by
    rcases h.mat y hy with e | e
    · rw [e] at hi
      have := rHd_neg hok hy
      have := rkI_lt.2 hi
      unfold rHd at *
      omega
    · exact e⟩
/-- Nobody is refused by what they have in u. -/
theorem DaR.opt {p : PlanD} {m a u : Nat → Int} (hok : okPlan p = true) (h : DaR p m a) (hu : Unb p u) : ∀ x s : Nat, x < p.nH → u x = s → possB p x s = true → rHd p x s < a x → m x = s := by
  induction h with
  | start =>
    intro x s hx _ _ hl
    have hl : rHd p x s < 0 := hl
    have := rHd_nn p x s
    omega
  | @skip m a h h1 h2 h3 h4 h5 ih =>
    intro x s hx hux hp hl
    have hah := ((h1.daI hok).ask h h2).1
    obtain ⟨j, hj⟩ : ∃ j : Nat, a h = j := ⟨(a h).toNat, by omega⟩
    by_cases e : x = h
    · subst e
      rw [upd_at] at hl
      rcases Int.lt_or_le (rHd p x s) (a x) with h6 | h6
      · exact ih x s hx hux hp h6
      · have e2 := rHd_at (j := j) (poss_if2.1 hp).1 (by omega)
        rw [hj, Int.toNat_natCast, e2, hp] at h5
        cases h5
    · rw [upd_ne a _ e] at hl
      exact ih x s hx hux hp hl
  | @take m a h s h1 h2 h3 h4 h5 h6 h7 ih =>
    intro x t hx hux hp hl
    have hah := ((h1.daI hok).ask h h2).1
    obtain ⟨j, hj⟩ : ∃ j : Nat, a h = j := ⟨(a h).toNat, by omega⟩
    rw [hj, Int.toNat_natCast] at h5
    by_cases e : x = h
    · subst e
      rw [upd_at] at hl ⊢
      rcases Int.lt_or_le (rHd p x t) (a x) with h8 | h8
      · have := ih x t hx hux hp h8
        omega
      · have e2 := rHd_at (j := j) (poss_if2.1 hp).1 (by omega)
        rw [← h5, e2]
    · rw [upd_ne a _ e] at hl
      rw [upd_ne m _ e]
      exact ih x t hx hux hp hl
  | @swap m a h s z h1 h2 h3 h4 h5 h6 h7 h8 h9 h10 ih =>
    have hI := h1.daI hok
    have hsr := poss_rg2 hok h2 h6
    have hah := (hI.ask h h2).1
    obtain ⟨j, hj⟩ : ∃ j : Nat, a h = j := ⟨(a h).toNat, by omega⟩
    rw [hj, Int.toNat_natCast] at h5
    have hrk : rHd p h s = j := by
      rw [← h5]
      exact rHd_self hok h2 (by omega)
    have key : ∀ x t : Nat, x < p.nH → u x = t → possB p x t = true → rHd p x t < upd a h (a h + 1) x → upd m h (s : Int) x = t := by
      intro x t hx hux hp hl
      by_cases e : x = h
      · subst e
        rw [upd_at] at hl ⊢
        rcases Int.lt_or_le (rHd p x t) (a x) with h11 | h11
        · have := ih x t hx hux hp h11
          omega
        · have e2 := rHd_at (j := j) (poss_if2.1 hp).1 (by omega)
          rw [← h5, e2]
      · rw [upd_ne a _ e] at hl
        rw [upd_ne m _ e]
        exact ih x t hx hux hp hl
    intro x t hx hux hp hl
    have hk := key x t hx hux hp hl
    by_cases exz : x = z
    · exfalso
      subst exz
      have hts : t = s := by omega
      subst hts
      obtain ⟨y, hy, hmy, huy⟩ : ∃ y, y < p.nH ∧ upd m h (t : Int) y = t ∧ u y ≠ t := by
        refine Classical.byContradiction fun hno => ?_
        have g1 := cnt_imp (a := upd m h (t : Int)) (b := u) (s := t) (t := t) p.nH (fun y hy e => Classical.byContradiction fun hne => hno ⟨y, hy, e, hne⟩)
        have g2 := hu.cap t (by omega)
        omega
      have g1 : rSd p t y ≤ rSd p t x := h10 y hy hmy
      have hpy : possB p y t = true ∧ rHd p y t < upd a h (a h + 1) y ∧ ∀ v : Nat, u y = v → rHd p y v < rHd p y t → possB p y v = true → False := by
        by_cases e2 : y = h
        · subst e2
          refine ⟨h6, by rw [upd_at]; omega, fun v hv hlt hpv => ?_⟩
          have := ih y v hy hv hpv (by omega)
          omega
        · rw [upd_ne m _ e2] at hmy
          rcases hI.has y hy with e3 | ⟨e3, e4, e5⟩
          · omega
          · rw [hmy] at e4 e5
            refine ⟨e5, by rw [upd_ne a _ e2]; omega, fun v hv hlt hpv => ?_⟩
            have := ih y v hy hv hpv (by omega)
            have : (v : Int) = t := by omega
            rw [this] at hlt
            omega
      obtain ⟨g2, -, g4⟩ := hpy
      have g5 : rHd p y t < rHd p y (u y) := by
        rcases Int.lt_or_le (rHd p y t) (rHd p y (u y)) with g6 | g6
        · exact g6
        · exfalso
          have g7 : 0 ≤ idxI (p.vH y) (u y) (p.LH y) := rkI_lt.1 (by
            have := rHd_poss g2
            unfold rHd at *
            omega)
          have g8 := hu.mat y hy g7
          have g9 := poss_rg2 hok hy g8
          obtain ⟨v, hv⟩ : ∃ v : Nat, u y = v := ⟨(u y).toNat, by omega⟩
          rw [hv] at g6 g8
          refine g4 v hv ?_ g8
          have : rHd p y v ≠ rHd p y t := fun e => huy (by rw [hv]; exact rHd_inj g8 g2 e)
          omega
      have := hu.nob y t x hy (by omega) hx g2 g5 hux
      omega
    · rw [upd_ne (upd m h (s : Int)) _ exz]
      exact hk
theorem DaR.best {p : PlanD} {m a u : Nat → Int} (hok : okPlan p = true) (h : DaR p m a) (he : DaEnd p m a) (hu : Unb p u) {x : Nat} (hx : x < p.nH) : rHd p x (m x) ≤ rHd p x (u x) := by
  rcases Int.lt_or_le (rHd p x (u x)) (rHd p x (m x)) with g | g
  · exfalso
    have g0 : rHd p x (m x) ≤ p.LH x := (rkI_bd _ _ _).2
    have g1 : 0 ≤ idxI (p.vH x) (u x) (p.LH x) := rkI_lt.1 (by unfold rHd at *; omega)
    have g2 := hu.mat x hx g1
    have g3 := poss_rg2 hok hx g2
    obtain ⟨s, hs⟩ : ∃ s : Nat, u x = s := ⟨(u x).toNat, by omega⟩
    rw [hs] at g g2
    have hI := h.daI hok
    have g4 : rHd p x s < a x := by
      rcases hI.has x hx with e | ⟨e1, e2, -⟩
      · have h1 := he x hx
        unfold wtP at h1
        rw [decide_eq_true e, Bool.true_and, decide_eq_false_iff_not] at h1
        have := rHd_poss g2
        omega
      · omega
    rw [h.opt hok hu x s hx hs g2 g4] at g
    omega
  · exact g
theorem DaR.stb {p : PlanD} {m a : Nat → Int} (hok : okPlan p = true) (h : DaR p m a) (he : DaEnd p m a) : Stb p m := by
  have hI := h.daI hok
  refine ⟨fun x hx => (hI.has x hx).imp id (fun h => h.2.2), hI.cap, fun x s hx hs hp hl => ?_⟩
  have hne : m x ≠ s := fun e => by
    rw [e] at hl
    omega
  refine hI.ref x s hx hs hp hne ?_
  rcases hI.has x hx with e | ⟨e1, e2, -⟩
  · have h1 := he x hx
    unfold wtP at h1
    rw [decide_eq_true e, Bool.true_and, decide_eq_false_iff_not] at h1
    have := rHd_poss hp
    omega
  · omega

/-- How much is left to ask. -/
def msr (p : PlanD) (a : Nat → Int) : Nat := sumN (fun x => p.LH x - (a x).toNat) p.nH
theorem msr_upd {p : PlanD} {a : Nat → Int} {h : Nat} (hh : h < p.nH) (h0 : 0 ≤ a h) (hl : a h < p.LH h) : msr p (upd a h (a h + 1)) < msr p a := by
  unfold msr
  have : ∀ n, h < n → sumN (fun x => p.LH x - (upd a h (a h + 1) x).toNat) n + 1 = sumN (fun x => p.LH x - (a x).toNat) n := by
    intro n
    induction n with
    | zero => intro h; omega
    | succ n ih =>
      intro hn
      simp only [sumN]
      by_cases e : h = n
      · subst e
        rw [sumN_congr (g := fun x => p.LH x - (a x).toNat) h (fun s hs => by rw [upd_ne a _ (by omega)]), upd_at]
        omega
      · have := ih (by omega)
        rw [upd_ne a _ (fun e2 => e e2.symm)]
        omega
  have := this p.nH hh
  omega
theorem da_step {p : PlanD} {m a : Nat → Int} (hok : okPlan p = true) (h : DaR p m a) (hn : ¬ DaEnd p m a) : ∃ m' a', DaR p m' a' ∧ msr p a' < msr p a := by
  obtain ⟨x, hx, hw⟩ : ∃ x, x < p.nH ∧ wtP p m a x = true := by
    refine Classical.byContradiction fun hno => hn (fun x hx => ?_)
    cases e : wtP p m a x with
    | false => rfl
    | true => exact absurd ⟨x, hx, e⟩ hno
  unfold wtP at hw
  rw [Bool.and_eq_true_iff, decide_eq_true_iff, decide_eq_true_iff] at hw
  have hI := h.daI hok
  have h0 := (hI.ask x hx).1
  have hm := msr_upd hx h0 hw.2
  cases hp : possB p x (p.vH x (a x).toNat) with
  | false => exact ⟨_, _, DaR.skip h hx hw.1 hw.2 hp, hm⟩
  | true =>
    have hr := poss_rg2 hok hx hp
    obtain ⟨s, hs⟩ : ∃ s : Nat, p.vH x (a x).toNat = s := ⟨(p.vH x (a x).toNat).toNat, by omega⟩
    rw [hs] at hp
    rcases Int.lt_or_le (p.pl s) (cnt (upd m x (s : Int)) (s : Int) p.nH) with hc | hc
    · obtain ⟨z, hz, hzm⟩ := max_ex (fun y => rSd p s y.toNat) (hndL (upd m x (s : Int)) s p.nH) (fun e => by
        have h1 : (x : Int) ∈ hndL (upd m x (s : Int)) s p.nH := hndL_mem.2 ⟨x, hx, upd_at _ _ _, rfl⟩
        rw [e] at h1
        cases h1)
      obtain ⟨z, hz1, hz2, rfl⟩ := hndL_mem.1 hz
      exact ⟨_, _, DaR.swap h hx hw.1 hw.2 hs hp hc hz1 hz2 (fun y hy e => by
        have := hzm y (hndL_mem.2 ⟨y, hy, e, rfl⟩)
        simpa [rSd] using this), hm⟩
    · exact ⟨_, _, DaR.take h hx hw.1 hw.2 hs hp hc, hm⟩
theorem da_ex {p : PlanD} (hok : okPlan p = true) : ∃ m a, DaR p m a ∧ DaEnd p m a := by
  have : ∀ k m a, DaR p m a → msr p a ≤ k → ∃ m a, DaR p m a ∧ DaEnd p m a := by
    intro k
    induction k with
    | zero =>
      intro m a h hk
      refine ⟨m, a, h, Classical.byContradiction fun hn => ?_⟩
      obtain ⟨-, a', -, h2⟩ := da_step hok h hn
      omega
    | succ k ih =>
      intro m a h hk
      by_cases hn : DaEnd p m a
      · exact ⟨m, a, h, hn⟩
      · obtain ⟨m', a', h1, h2⟩ := da_step hok h hn
        exact ih m' a' h1 (by omega)
  exact this _ _ _ DaR.start (Nat.le_refl _)
/-- Two best ones are one. -/
theorem best_one {p : PlanD} {m u : Nat → Int} (hok : okPlan p = true) (h1 : Stb p m) (h2 : Stb p u) (h3 : ∀ x, x < p.nH → rHd p x (m x) ≤ rHd p x (u x)) (h4 : ∀ x, x < p.nH → rHd p x (u x) ≤ rHd p x (m x)) : ∀ x, x < p.nH → m x = u x := fun x hx =>
  h1.same hok h2 hx (by have := h3 x hx; have := h4 x hx; omega)
end Go.Proofs.Ytiigcjcolpmafaa

/- The program's admit, whatever comes; first and First on a plan. -/
namespace Go.Proofs.Ytiigcjcolpmafaa
open Go.RowKit

set_option maxHeartbeats 2000000 in
set_option maxRecDepth 1000000 in
theorem admit_swap (AH AS AP : Option Addr) (cH cS cP n gm h s : Nat) (p : PlanD) (m : Nat → Int) (w : World) (hp : PlanIn w AH AS AP p) (hR : RowI w gm n m) (hn : n = p.nH) (hok : okPlan p = true) (hh : h < p.nH) (hs : s < p.nS) (hpo : possB p h (s : Int) = true) (hcnt : p.pl s < (cnt (upd m h (s : Int)) (s : Int) n : Int)) (hls : Lstd p (upd m h (s : Int)))
    (hgm : ∀ w' : World, Exc gm w w' → PlanIn w' AH AS AP p) :
    Calls Try.prog 85 #[.agg #[.slice AH p.nH cH, .slice AS p.nS cS, .slice AP p.nP cP], .slice (some ⟨gm, 0, none⟩) n n, .int .i64 h, .int .i64 s] w fun e w' => e = .returned (.tuple #[]) ∧
      ∃ z : Nat, z < n ∧ upd m h (s : Int) z = (s : Int) ∧ (∀ y, y < n → upd m h (s : Int) y = (s : Int) → rSd p s y ≤ rSd p s z) ∧ RowI w' gm n (upd (upd m h (s : Int)) z (-1)) ∧ Exc gm w w' := by
  obtain ⟨⟨a1, a2, a3, a4, a5⟩, a6, -, -⟩ := okPlan_of hok
  have hpl0 := (a6 s (by omega)).1
  have Hb0 := Lib.hid (below_box w (.cells #[.slice AH p.nH cH, .slice AS p.nS cS, .slice AP p.nP cP] 29))
  have HB0 := Lib.hid (BoxP.new w AH AS AP p.nH p.nS p.nP cH cS cP)
  have hglt := hR.lt
  have hpos := possible_any AH AS AP cH cS cP p h (s : Int) _ (hp.keep Hb0.out).hands.rows (hp.keep Hb0.out).shifts.rows hok hh
  rw [hpo] at hpos
  have HPos := Lib.hid hpos
  have HR := Lib.hid hR
  have HGm := Lib.hid hgm
  have HLs := Lib.hid hls
  have HN := Lib.hid hn
  have hhn : h < n := by omega
  have hsP : (s : Int) < (p.nP : Int) := by omega
  have hsP' : s < p.nP := by omega
  have hsS : (s : Int) < (p.nS : Int) := by omega
  have hn9 : n ≤ 6 := by omega
  have HLS := Lib.hid (hp.sS s hs)
  clear hp hR hpos hgm hls hn hpo hok a5 a6
  go_enter Try.func85, Try.ntmps85
  go_wp2_with fail
  refine Lr.use HPos.out ?_
  intro w1 hb1
  have hbw := Hb0.out.trans (hb1.mono Hb0.out.size)
  have HB1 := Lib.hid (HB0.out.keep hb1)
  have hR1 := HR.out.keep hbw
  have hck := hR1.cell hhn
  have hfz := hR1.frozen h
  have hR2 := hR1.set h (s : Int)
  have hE2 : Exc gm w (w1.setCell ⟨gm, h, none⟩ (.int .i64 (s : Int))) := (Exc.of_below hbw).set h _
  obtain ⟨bP, oP, hAP, hcP⟩ := (HGm.out _ hE2).places.at hsP'
  subst hAP
  have HR2 := Lib.hid hR2
  have HE2 := Lib.hid hE2
  have HcP := Lib.hid hcP
  have hne2 : (⟨w.heap.size, 2, none⟩ : Addr).block ≠ gm := by simp only; omega
  have hne1 : (⟨w.heap.size, 1, none⟩ : Addr).block ≠ gm := by simp only; omega
  have HQ2 : Hid ((w1.setCell ⟨gm, h, none⟩ (.int .i64 (s : Int))).cell? ⟨w.heap.size, 2, none⟩ = some (.slice (some ⟨bP, oP, none⟩) p.nP cP)) := Lib.hid (by
    rw [World.cell?_setCell_far _ _ _ _ (fun e => hne2 e.symm)]
    exact HB1.out.2.2)
  have HQ1 : Hid ((w1.setCell ⟨gm, h, none⟩ (.int .i64 (s : Int))).cell? ⟨w.heap.size, 1, none⟩ = some (.slice AS p.nS cS)) := Lib.hid (by
    rw [World.cell?_setCell_far _ _ _ _ (fun e => hne1 e.symm)]
    exact HB1.out.2.1)
  have HHo := Lib.hid (handsOf_any (some ⟨gm, 0, none⟩) n n (upd m h (s : Int)) (s : Int) _ hR2.ints (by omega))
  clear hb1 hbw hR1 hR2 hE2 hcP hne1 hne2
  go_wp2_with fail
  refine HHo.out.mono ?_
  rintro e w3 ⟨x, rfl, hx, hb3⟩
  obtain ⟨A3, c3, rfl, hI3⟩ := hx.shp (hndL_len _ _ _)
  have q2 := old_cell HQ2.out hb3
  have q1 := old_cell HQ1.out hb3
  have g3 := old_cell HcP.out hb3
  have HR3 := Lib.hid (HR2.out.keep hb3)
  have hE3 := HE2.out.trans (Exc.of_below hb3)
  obtain ⟨bS, oS, RS, kS, hAS, hcS, -, hIS⟩ := (HGm.out _ hE3).shifts.at hs
  subst hAS
  have HE3 := Lib.hid hE3
  have hlen := hndL_len (upd m h (s : Int)) (s : Int) n
  obtain ⟨k, hk⟩ : ∃ k, cnt (upd m h (s : Int)) (s : Int) n = k + 1 := ⟨cnt (upd m h (s : Int)) (s : Int) n - 1, by omega⟩
  have hof : lst (k + 1) (fun j => (hndL (upd m h (s : Int)) (s : Int) n).getD j 0) = hndL (upd m h (s : Int)) (s : Int) n := by
    have := lst_of (hndL (upd m h (s : Int)) (s : Int) n)
    rw [hlen, hk] at this
    exact this
  obtain ⟨x0, hx0, hm0⟩ := max_ex (rkI (p.vS s) (p.LS s)) (hndL (upd m h (s : Int)) (s : Int) n) (by
    intro e
    rw [e] at hlen
    simp at hlen
    omega)
  have hinj : ∀ y, y ∈ hndL (upd m h (s : Int)) (s : Int) n → rkI (p.vS s) (p.LS s) y = rkI (p.vS s) (p.LS s) x0 → y = x0 := fun y hy e => by
    obtain ⟨a, ha, ha2, rfl⟩ := hndL_mem.1 hy
    obtain ⟨b, hb, hb2, rfl⟩ := hndL_mem.1 hx0
    exact rkI_inj (HLs.out a s (by rw [← HN.out]; exact ha) ha2) (HLs.out b s (by rw [← HN.out]; exact hb) hb2) e
  obtain ⟨z, hz, hz2, hz3⟩ := hndL_mem.1 hx0
  have hct := cnt_le (upd m h (s : Int)) (s : Int) n
  have HCh := Lib.hid (choice_any RS A3 (p.LS s) kS (k + 1) c3 k (p.vS s) _ x0 w3 hIS (by rw [hk] at hI3; exact hI3) (by have := HLS.out; omega) (by omega) (by omega) (fun F hp hs => srt_last hp hs (by rw [hof]; exact hx0) (fun y hy => hm0 y (by rw [hof] at hy; exact hy)) (fun y hy => hinj y (by rw [hof] at hy; exact hy))))
  have HZ : Hid (z < n ∧ upd m h (s : Int) z = (s : Int) ∧ ∀ y, y < n → upd m h (s : Int) y = (s : Int) → rSd p s y ≤ rSd p s z) := Lib.hid ⟨hz, hz2, fun y hy e => by
    have := hm0 (y : Int) (hndL_mem.2 ⟨y, hy, e, rfl⟩)
    rw [hz3] at this
    exact this⟩
  rw [hz3] at HCh
  rw [hk] at hcnt hct ⊢
  generalize k + 1 = ct at *
  have hgt : p.pl s < (ct : Int) := hcnt
  clear hx hb3 HHo hI3 hx0 hm0 hinj hz3 hof hlen hk hE3 hck hfz hct hz2
  go_wp2_with fail
  refine Lr.use HCh.out ?_
  intro w4 hb4
  have hR4 := HR3.out.keep hb4
  have d1 := hR4.cell hz
  have d2 := hR4.frozen z
  have hzi : (z : Int) < n := by omega
  have HR5 := Lib.hid (hR4.set z (-1))
  have HE5 := Lib.hid ((HE3.out.trans (Exc.of_below hb4)).set z (.int .i64 (-1)))
  clear hR4 hb4 q1 q2 g3 hcS hIS
  go_wp2
  go_returns
  exact ⟨rfl, z, HZ.out.1, HZ.out.2.1, HZ.out.2.2, HR5.out, HE5.out⟩

/-- Whatever comes of an offer is a step of asking in turn. -/
theorem admit_any (AH AS AP : Option Addr) (cH cS cP n gm h : Nat) (p : PlanD) (m a : Nat → Int) (w : World) (hD : DaR p m a) (hp : PlanIn w AH AS AP p) (hR : RowI w gm n m) (hn : n = p.nH) (hok : okPlan p = true) (hh : h < p.nH) (hm : m h = -1) (ha : a h < p.LH h)
    (hgm : ∀ w' : World, Exc gm w w' → PlanIn w' AH AS AP p) :
    Calls Try.prog 85 #[.agg #[.slice AH p.nH cH, .slice AS p.nS cS, .slice AP p.nP cP], .slice (some ⟨gm, 0, none⟩) n n, .int .i64 h, .int .i64 (p.vH h (a h).toNat)] w fun e w' => e = .returned (.tuple #[]) ∧ ∃ m', DaR p m' (upd a h (a h + 1)) ∧ RowI w' gm n m' ∧ Exc gm w w' := by
  cases hpo : possB p h (p.vH h (a h).toNat) with
  | false =>
    refine (admit_skip AH AS AP cH cS cP n gm h _ p m w hp hR hok hh hpo).mono ?_
    rintro e w' ⟨rfl, h1, h2⟩
    exact ⟨rfl, m, hD.skip hh hm ha hpo, h1, h2⟩
  | true =>
    have hr := poss_rg2 hok hh hpo
    obtain ⟨s, hs⟩ : ∃ s : Nat, p.vH h (a h).toNat = s := ⟨(p.vH h (a h).toNat).toNat, by omega⟩
    rw [hs] at hpo ⊢
    subst hn
    rcases Int.lt_or_le (p.pl s) (cnt (upd m h (s : Int)) (s : Int) p.nH) with hc | hc
    · have hls : Lstd p (upd m h (s : Int)) := fun x t hx e => by
        unfold upd at e
        split at e
        · rename_i e2
          subst e2
          have : t = s := by omega
          subst this
          exact (poss_if2.1 hpo).2
        · exact hD.lstd x t hx e
      refine (admit_swap AH AS AP cH cS cP p.nH gm h s p m w hp hR rfl hok hh (by omega) hpo hc hls hgm).mono ?_
      rintro e w' ⟨rfl, z, h1, h2, h3, h4, h5⟩
      exact ⟨rfl, _, hD.swap hh hm ha hs hpo hc h1 h2 h3, h4, h5⟩
    · refine (admit_take AH AS AP cH cS cP p.nH gm h s p m w hp hR rfl hok hh (by omega) hpo hc hgm).mono ?_
      rintro e w' ⟨rfl, h1, h2⟩
      exact ⟨rfl, _, hD.take hh hm ha hs hpo hc, h1, h2⟩

theorem fstI_cases (P : Nat → Bool) (n : Nat) : (fstI P n = -1 ∧ NoneLt P n) ∨ ∃ k, k < n ∧ fstI P n = k ∧ P k = true := by
  induction n with
  | zero => exact .inl ⟨rfl, NoneLt.zero⟩
  | succ n ih =>
    rcases ih with ⟨e, h⟩ | ⟨k, hk, e, h⟩
    · cases hp : P n with
      | true => exact .inr ⟨n, by omega, by simp [fstI, e, hp], hp⟩
      | false => exact .inl ⟨by simp [fstI, e, hp], h.succ hp⟩
    · exact .inr ⟨k, by omega, by simp only [fstI, e]; rw [if_neg (by omega)], h⟩

set_option maxHeartbeats 4000000 in
set_option maxRecDepth 1000000 in
theorem first_any (AH AS AP : Option Addr) (cH cS cP : Nat) (p : PlanD) (w : World) (hp : PlanIn w AH AS AP p) (hok : okPlan p = true) :
    Calls Try.prog 53 #[.agg #[.slice AH p.nH cH, .slice AS p.nS cS, .slice AP p.nP cP]] w fun e w' => ∃ g m a, e = .returned (.slice (some ⟨g, 0, none⟩) p.nH p.nH) ∧ DaR p m a ∧ DaEnd p m a ∧ RowI w' g p.nH m ∧ w.heap.size ≤ g ∧ Below w.heap.size w w' := by
  obtain ⟨⟨a1, a2, -, -, -⟩, -, -, -⟩ := okPlan_of hok
  have hmk : ∀ w : World, _ := fun w => mk_ints p.nH (by omega) w
  have Hb0 := Lib.hid (below_box w (.cells #[.slice AH p.nH cH, .slice AS p.nS cS, .slice AP p.nP cP] 29))
  have HB0 := Lib.hid (BoxP.new w AH AS AP p.nH p.nS p.nP cH cS cP)
  have HUn := Lib.hid (unm_any p.nH a1 a2 (w.alloc (.cells #[.slice AH p.nH cH, .slice AS p.nS cS, .slice AP p.nP cP] 29)))
  have HP := Lib.hid hp
  have HOk := Lib.hid hok
  have hw0 : w.heap.size < (w.alloc (.cells #[.slice AH p.nH cH, .slice AS p.nS cS, .slice AP p.nP cP] 29)).heap.size := by simp
  have HW0 := Lib.hid hw0
  have hnp : (0 : Int) ≤ (p.nH : Int) := by omega
  clear hp hw0 hok
  go_enter Try.func53, Try.ntmps53
  go_wp2_with fail
  refine HUn.out.mono ?_
  rintro e w1 ⟨gm, rfl, hR, hgm, hb1⟩
  have HB1 := Lib.hid (HB0.out.keep hb1)
  have Hb1 := Lib.hid (Hb0.out.trans (hb1.mono Hb0.out.size))
  have HR1 := Lib.hid hR
  have hgw : w.heap.size < gm := Nat.lt_of_lt_of_le HW0.out hgm
  have hbm := below_box w1 (.cells (madeCells #[.int .i64 0] p.nH) 3)
  obtain ⟨ga, hga⟩ : ∃ ga, ga = w1.heap.size := ⟨_, rfl⟩
  have hRa : RowI (w1.alloc (.cells (madeCells #[.int .i64 0] p.nH) 3)) ga p.nH (fun _ => 0) := by rw [hga]; exact RowI.made w1 p.nH
  have hgag : gm < ga := by rw [hga]; exact hR.lt
  obtain ⟨W2, hW2⟩ : ∃ W2, W2 = w1.alloc (.cells (madeCells #[.int .i64 0] p.nH) 3) := ⟨_, rfl⟩
  rw [← hW2] at hbm hRa
  have HB2 := Lib.hid (HB1.out.keep hbm)
  have Hb2 := Lib.hid (Hb1.out.trans (hbm.mono Hb1.out.size))
  have HR2 := Lib.hid (HR1.out.keep hbm)
  have HRa := Lib.hid hRa
  have HWt := Lib.hid (fun (W : World) (m a : Nat → Int) (hb : Below w.heap.size w W) (h1 : RowI W gm p.nH m) (h2 : RowI W ga p.nH a) => by
    exact waiting_any AH AS AP (some ⟨gm, 0, none⟩) (some ⟨ga, 0, none⟩) cH cS cP p.nH p.nH p.nH p m a W (HP.out.keep hb) h1.ints h2.ints rfl)
  obtain ⟨q0, q1, q2⟩ := HB1.out
  obtain ⟨r0, r1, r2⟩ := HB2.out
  have HW2 := Lib.hid hW2
  have HGa := Lib.hid hga
  rw [hW2] at r0 r1 r2
  clear hR hgm hb1 hbm hRa hga hW2
  go_wp2_with fail
  rw [← HW2.out, ← HGa.out]
  refine Lr.use (HWt.out W2 _ _ Hb2.out HR2.out HRa.out) ?_
  intro w3 hb3
  have HB3 := Lib.hid (HB2.out.keep hb3)
  have Hb3 := Lib.hid (Hb2.out.trans (hb3.mono Hb2.out.size))
  have HR3 := Lib.hid (HR2.out.keep hb3)
  have HRa3 := Lib.hid (HRa.out.keep hb3)
  clear hb3 q0 q1 q2 r0 r1 r2 hmk
  go_wp2
  go_loopg [5] (msr p (fun _ => 0)) (fun gk x wr => ∃ (mm aa : Nat → Int), x = .int .i64 (fstI (wtP p mm aa) p.nH) ∧ DaR p mm aa ∧ gk = msr p aa ∧ RowI wr gm p.nH mm ∧ RowI wr ga p.nH aa ∧ BoxP wr w.heap.size AH AS AP p.nH p.nS p.nP cH cS cP ∧ Below w.heap.size w wr)
  case atStart => exact ⟨_, _, rfl, DaR.start, rfl, HR3.out, HRa3.out, HB3.out, Hb3.out⟩
  case round =>
    obtain ⟨mm, aa, rfl, hDa, hgk, hRm, hRa, hBx, hbel⟩ := hrel
    have HGk := Lib.hid hgk
    clear hgk
    rcases fstI_cases (wtP p mm aa) p.nH with ⟨hst, hno⟩ | ⟨h, hhn, hst, hwt⟩
    · have HRm := Lib.hid hRm
      have Hbel := Lib.hid hbel
      have HDa := Lib.hid hDa
      have HNo : Hid (DaEnd p mm aa) := Lib.hid hno
      clear hRm hRa hBx hbel hDa hno
      rw [hst]
      clear hst
      go_wp2
      go_ret
      exact ⟨gm, mm, aa, rfl, HDa.out, HNo.out, HRm.out, by omega, Hbel.out⟩
    · have hPl := HP.out.keep hbel
      unfold wtP at hwt
      rw [Bool.and_eq_true_iff, decide_eq_true_iff, decide_eq_true_iff] at hwt
      have hI := hDa.daI HOk.out
      have hhp : h < p.nH := hhn
      have ha0 := (hI.ask h hhp).1
      obtain ⟨j, hj⟩ : ∃ j : Nat, aa h = j := ⟨(aa h).toNat, by omega⟩
      have hjl : j < p.LH h := by omega
      have hjli : (j : Int) < p.LH h := by omega
      have hhni : (h : Int) < p.nH := by omega
      obtain ⟨bH, oH, RH, kH, hAH, hcH, -, hIH⟩ := hPl.hands.at hhp
      subst hAH
      obtain ⟨bR, oR, hRH, hcR⟩ := hIH.at hjl
      subst hRH
      have HMs := Lib.hid (msr_upd (p := p) (a := aa) hhp ha0 hwt.2)
      have HAd := Lib.hid (fun (W : World) (hb : Below w.heap.size w W) (hr : RowI W gm p.nH mm) => admit_any (some ⟨bH, oH, none⟩) AS AP cH cS cP p.nH gm h p mm aa W hDa (HP.out.keep hb) hr rfl HOk.out hhp hwt.1 hwt.2 (fun w' he => HP.out.keep (hb.trans (he.below (by omega) hb.size))))
      rw [hj, Int.toNat_natCast] at HAd
      rw [hj] at HMs
      have hja : (j : Int) ≤ 9 := by
        have := hPl.sH h hhp
        omega
      have hca := hRa.cell hhn
      rw [hj] at hca
      have hfa := hRa.frozen h
      obtain ⟨q0, q1, q2⟩ := hBx
      have HBx := Lib.hid (show BoxP wr w.heap.size (some ⟨bH, oH, none⟩) AS AP p.nH p.nS p.nP cH cS cP from ⟨q0, q1, q2⟩)
      have Hbel := Lib.hid hbel
      have HRm := Lib.hid hRm
      have HRa := Lib.hid hRa
      have hne1 : (((h : Int)) == -1) = false := beq_f (by omega)
      generalize p.vH h j = sv at *
      rw [hst]
      clear hIH hPl hbel hRm hRa hDa hwt hI ha0 hj hst
      go_wp2_with fail
      go_quiet (fail)
      have HRa4 := Lib.hid ((HRa.out.dn ((Dn.refl wr).drewN nq)).set h ((j : Int) + 1))
      have HRm4 := Lib.hid (((HRm.out.dn ((Dn.refl wr).drewN nq)).setOther (a := ⟨ga, h, none⟩) (show gm ≠ ga by omega) (.int .i64 ((j : Int) + 1))))
      have hbel4 : Below w.heap.size w ((wr.drewN nq).setCell ⟨ga, h, none⟩ (.int .i64 ((j : Int) + 1))) := (Hbel.out.trans (((Dn.refl wr).drewN nq).below _)).setCell (p := ⟨ga, h, none⟩) (show w.heap.size ≤ ga by omega) _
      have Hbel4 := Lib.hid hbel4
      have HBx4 : Hid (BoxP ((wr.drewN nq).setCell ⟨ga, h, none⟩ (.int .i64 ((j : Int) + 1))) w.heap.size (some ⟨bH, oH, none⟩) AS AP p.nH p.nS p.nP cH cS cP) := Lib.hid (by
        obtain ⟨q0, q1, q2⟩ := HBx.out
        refine ⟨?_, ?_, ?_⟩
        · rw [World.cell?_setCell_far _ _ _ _ (show ga ≠ w.heap.size by omega)]; exact q0
        · rw [World.cell?_setCell_far _ _ _ _ (show ga ≠ w.heap.size by omega)]; exact q1
        · rw [World.cell?_setCell_far _ _ _ _ (show ga ≠ w.heap.size by omega)]; exact q2)
      obtain ⟨s0, s1, s2⟩ := HBx4.out
      have HAd4 := Lib.hid (HAd.out _ Hbel4.out HRm4.out)
      clear hbel4 q0 q1 q2
      go_wp2_with fail
      refine HAd4.out.mono ?_
      rintro e w5 ⟨rfl, m', hD5, hR5, hE5⟩
      have HD5 := Lib.hid hD5
      have HR5 := Lib.hid hR5
      have HRa5 := Lib.hid (hE5.row HRa4.out (show ga ≠ gm by omega))
      have hb5 := Hbel4.out.trans (hE5.below (show w.heap.size ≤ gm by omega) Hbel4.out.size)
      have Hb5 := Lib.hid hb5
      have HBx5 : Hid (BoxP w5 w.heap.size (some ⟨bH, oH, none⟩) AS AP p.nH p.nS p.nP cH cS cP) := Lib.hid ⟨hE5.cell s0 (show w.heap.size ≠ gm by omega), hE5.cell s1 (show w.heap.size ≠ gm by omega), hE5.cell s2 (show w.heap.size ≠ gm by omega)⟩
      clear hR5 hE5 hb5 s0 s1 s2 hca hfa hcH hcR hD5 HAd
      obtain ⟨q0, q1, q2⟩ := HBx5.out
      have HWt5 := Lib.hid (HWt.out w5 _ _ Hb5.out HR5.out HRa5.out)
      go_wp2_with fail
      refine Lr.use HWt5.out ?_
      intro w6 hb6
      have HR6 := Lib.hid (HR5.out.keep hb6)
      have HRa6 := Lib.hid (HRa5.out.keep hb6)
      have HBx6 := Lib.hid (HBx5.out.keep hb6)
      have Hb6 := Lib.hid (Hb5.out.trans (hb6.mono Hb5.out.size))
      clear hb6 q0 q1 q2
      go_wp2
      go_roundg (msr p (upd aa h ((j : Int) + 1)))
      case rel => exact ⟨m', _, rfl, HD5.out, rfl, HR6.out, HRa6.out, HBx6.out, Hb6.out⟩
      case measure => rw [HGk.out]; exact HMs.out

set_option maxHeartbeats 1000000 in
set_option maxRecDepth 1000000 in
theorem First_ok (AH AS AP : Option Addr) (cH cS cP : Nat) (p : PlanD) (w : World) (hp : PlanIn w AH AS AP p) (hok : okPlan p = true) :
    Calls Try.prog 17 #[.agg #[.slice AH p.nH cH, .slice AS p.nS cS, .slice AP p.nP cP]] w fun e w' => ∃ g m a, e = .returned (.tuple #[.slice (some ⟨g, 0, none⟩) p.nH p.nH, .int .i64 0]) ∧ DaR p m a ∧ DaEnd p m a ∧ RowI w' g p.nH m ∧ w.heap.size ≤ g ∧ Below w.heap.size w w' := by
  have Hb0 := Lib.hid (below_box w (.cells #[.slice AH p.nH cH, .slice AS p.nS cS, .slice AP p.nP cP] 29))
  have HB0 := Lib.hid (BoxP.new w AH AS AP p.nH p.nS p.nP cH cS cP)
  have hv := valid_any AH AS AP cH cS cP p _ (hp.keep Hb0.out)
  rw [hok] at hv
  have HV := Lib.hid hv
  have HP := Lib.hid hp
  have HOk := Lib.hid hok
  clear hv hp hok
  go_enter Try.func17, Try.ntmps17
  go_wp2_with fail
  refine Lr.use HV.out ?_
  intro w1 hb1
  have Hb1 := Lib.hid (Hb0.out.trans (hb1.mono Hb0.out.size))
  obtain ⟨q0, q1, q2⟩ := HB0.out.keep hb1
  have HF := Lib.hid (first_any AH AS AP cH cS cP p w1 (HP.out.keep Hb1.out) HOk.out)
  clear hb1
  go_wp2_with fail
  refine HF.out.mono ?_
  rintro e w2 ⟨g, m, a, rfl, hD, hE, hR, hg, hb2⟩
  have HR := Lib.hid hR
  have HD := Lib.hid hD
  have HE := Lib.hid hE
  have HG : Hid (w.heap.size ≤ g) := Lib.hid (Nat.le_trans Hb1.out.size hg)
  have Hb2 := Lib.hid (Hb1.out.trans (hb2.mono Hb1.out.size))
  clear hR hb2 q0 q1 q2 hD hE hg
  go_wp2
  go_ret2
  exact ⟨g, m, a, rfl, HD.out, HE.out, HR.out, HG.out, Hb2.out⟩
set_option maxHeartbeats 1000000 in
set_option maxRecDepth 1000000 in
theorem First_bad (AH AS AP : Option Addr) (cH cS cP : Nat) (p : PlanD) (w : World) (hp : PlanIn w AH AS AP p) (hok : okPlan p = false) :
    Lr 17 #[.agg #[.slice AH p.nH cH, .slice AS p.nS cS, .slice AP p.nP cP]] w (.tuple #[.slice none 0 0, .int .i64 2]) := by
  unfold Lr
  have Hb0 := Lib.hid (below_box w (.cells #[.slice AH p.nH cH, .slice AS p.nS cS, .slice AP p.nP cP] 29))
  have hv := valid_any AH AS AP cH cS cP p _ (hp.keep Hb0.out)
  rw [hok] at hv
  have HV := Lib.hid hv
  clear hv hp hok
  go_enter Try.func17, Try.ntmps17
  go_wp2_with fail
  refine Lr.use HV.out ?_
  intro w1 hb1
  have Hb1 := Lib.hid (Hb0.out.trans (hb1.mono Hb0.out.size))
  clear hb1
  go_wp2
  go_returns
  exact ⟨rfl, Hb1.out⟩
end Go.Proofs.Ytiigcjcolpmafaa

