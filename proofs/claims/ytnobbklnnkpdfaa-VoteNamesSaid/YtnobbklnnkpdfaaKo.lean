/- Kemeny's order: the first with the least disagreement, and what no order falls below. -/
import Derived.Test.YtnobbklnnkpdfaaRl
import Derived.Test.YtnobbklnnkpdfaaTn
namespace Go.Proofs.Ytnobbklnnkpdfaa
open Go.RowKit

def kemL (n : Nat) (T : Nat → Int) (c : Nat) : List Nat := minF (fun x => disS n T (rowF x) c) (List.range c) (ordL (List.range c) c [])
theorem ord_of_mem {c : Nat} {x : List Nat} (h : x ∈ ordL (List.range c) c []) : x.length = c ∧ Ord c (rowF x) := by
  obtain ⟨suf, e0, h1, h2, h3⟩ := (mem_ordL _ _ _ _).1 h
  rw [List.nil_append] at e0
  subst e0
  refine ⟨h1, ⟨fun k hk => ?_, fun i j hij hj e => ?_⟩⟩
  · have hk' : k < x.length := by omega
    have e : x.getD k 0 = x[k] := by simp [List.getD, hk']
    have := List.mem_range.1 (h2 x[k] (List.getElem_mem hk')).1
    show 0 ≤ ((x.getD k 0 : Nat) : Int) ∧ ((x.getD k 0 : Nat) : Int) < c
    omega
  · have hj' : j < x.length := by omega
    have hi' : i < x.length := by omega
    have e1 : x.getD i 0 = x[i] := by simp [List.getD, hi']
    have e2 : x.getD j 0 = x[j] := by simp [List.getD, hj']
    have e' : ((x.getD i 0 : Nat) : Int) = ((x.getD j 0 : Nat) : Int) := e
    exact (List.pairwise_iff_getElem.1 h3) i j hi' hj' hij (by omega)
theorem mem_of_ord {c : Nat} {o : Nat → Int} (h : Ord c o) : ∃ x, x ∈ ordL (List.range c) c [] ∧ ∀ k, k < c → rowF x k = o k := by
  refine ⟨(List.range c).map (fun k => (o k).toNat), (mem_ordL _ _ _ _).2 ⟨_, (List.nil_append _).symm, by simp, ?_, ?_⟩, ?_⟩
  · intro x hx
    obtain ⟨k, hk, rfl⟩ := List.mem_map.1 hx
    have := h.rng k (List.mem_range.1 hk)
    exact ⟨List.mem_range.2 (by omega), by simp⟩
  · refine List.pairwise_iff_getElem.2 (fun i j hi hj hij e => ?_)
    have hj' : j < c := by simpa using hj
    have h1 := h.rng i (by omega)
    have h2 := h.rng j hj'
    simp at e
    exact h.inj i j hij hj' (by omega)
  · intro k hk
    have := h.rng k hk
    simp [rowF, List.getD, hk]
    omega
theorem dis_congr {n c : Nat} {T : Nat → Int} {o o' : Nat → Int} (h : ∀ k, k < c → o k = o' k) : disS n T o c = disS n T o' c :=
  triS_congr (fun i j hij hj => by unfold dG; rw [h i (by omega), h j hj]) (Nat.le_refl _)
theorem ord_id (c : Nat) : Ord c (fun k => (k : Int)) := ⟨fun k hk => ⟨by omega, by omega⟩, fun i j hij hj e => by omega⟩
theorem range_mem (c : Nat) : List.range c ∈ ordL (List.range c) c [] :=
  (mem_ordL _ _ _ _).2 ⟨List.range c, (List.nil_append _).symm, by simp, fun x hx => ⟨hx, by simp⟩, List.nodup_range⟩
theorem kem_mem (n : Nat) (T : Nat → Int) (c : Nat) : kemL n T c ∈ ordL (List.range c) c [] := by
  rcases minF_mem (fun x => disS n T (rowF x) c) (ordL (List.range c) c []) (List.range c) with h | h
  · unfold kemL
    rw [h]
    exact range_mem c
  · exact h
theorem kem_min (n : Nat) (T : Nat → Int) {c : Nat} {o : Nat → Int} (h : Ord c o) : disS n T (rowF (kemL n T c)) c ≤ disS n T o c := by
  obtain ⟨x, hx, e⟩ := mem_of_ord h
  rw [← dis_congr e]
  exact (minF_le (fun x => disS n T (rowF x) c) (ordL (List.range c) c []) (List.range c)).2 x hx

/-- The sum of the first k. -/
def sumZ (f : Nat → Int) : Nat → Int
  | 0 => 0
  | k + 1 => sumZ f k + f k
theorem sumZ_congr {f g : Nat → Int} : ∀ {k : Nat}, (∀ i, i < k → f i = g i) → sumZ f k = sumZ g k := by
  intro k
  induction k with
  | zero => intro _; rfl
  | succ k ih => intro h; simp only [sumZ]; rw [ih (fun i hi => h i (by omega)), h k (by omega)]
theorem sumZ_add (f g : Nat → Int) : ∀ k : Nat, sumZ (fun i => f i + g i) k = sumZ f k + sumZ g k := by
  intro k
  induction k with
  | zero => rfl
  | succ k ih => simp only [sumZ]; rw [ih]; omega
theorem sumZ_nil : ∀ k : Nat, sumZ (fun _ => 0) k = 0 := by
  intro k
  induction k with
  | zero => rfl
  | succ k ih => simp only [sumZ]; rw [ih]; rfl
theorem sumZ_comm (f : Nat → Nat → Int) (m : Nat) : ∀ n : Nat, sumZ (fun i => sumZ (f i) m) n = sumZ (fun j => sumZ (fun i => f i j) n) m := by
  intro n
  induction n with
  | zero => exact (sumZ_nil m).symm
  | succ n ih =>
    simp only [sumZ]
    rw [ih, ← sumZ_add]
theorem sumZ_one {p : Nat} (y : Int) : ∀ {c : Nat}, p < c → sumZ (fun k => if k = p then y else 0) c = y := by
  intro c
  induction c with
  | zero => intro h; omega
  | succ c ih =>
    intro h
    simp only [sumZ]
    by_cases e : p = c
    · rw [if_pos e.symm]
      have : sumZ (fun k => if k = p then y else 0) c = sumZ (fun _ => 0) c := sumZ_congr (fun i hi => if_neg (by omega))
      rw [this, sumZ_nil]
      omega
    · rw [ih (by omega), if_neg (fun h => e h.symm)]
      omega
theorem sumZ_perm {c : Nat} {o : Nat → Int} (h : Ord c o) (f : Nat → Int) : sumZ (fun k => f (o k).toNat) c = sumZ f c := by
  have e1 : sumZ (fun k => f (o k).toNat) c = sumZ (fun k => sumZ (fun a => if a = (o k).toNat then f (o k).toNat else 0) c) c := sumZ_congr (fun k hk => by
    have := h.rng k hk
    exact (sumZ_one _ (by omega)).symm)
  rw [e1, sumZ_comm]
  refine sumZ_congr (fun a ha => ?_)
  obtain ⟨p, hp, e, -, hu⟩ := h.place ha
  have e2 : sumZ (fun k => if a = (o k).toNat then f (o k).toNat else 0) c = sumZ (fun k => if k = p then f a else 0) c := sumZ_congr (fun k hk => by
    have h1 := h.rng k hk
    have h2 := hu k hk
    by_cases ek : k = p
    · have h3 := h2.2 ek
      have h4 : a = (o k).toNat := by omega
      rw [if_pos h4, if_pos ek, ← h4]
    · rw [if_neg (fun e => ek (h2.1 (by omega))), if_neg ek])
  rw [e2, sumZ_one _ hp]
theorem tri_full {g : Nat → Nat → Int} (hs : ∀ i j, g i j = g j i) {c : Nat} (hc : c ≤ 5) : 2 * triS g c c + sumZ (fun i => g i i) c = sumZ (fun i => sumZ (g i) c) c := by
  have h1 := hs 1 0
  have h2 := hs 2 0
  have h3 := hs 2 1
  have h4 := hs 3 0
  have h5 := hs 3 1
  have h6 := hs 3 2
  have h7 := hs 4 0
  have h8 := hs 4 1
  have h9 := hs 4 2
  have h10 := hs 4 3
  obtain rfl | rfl | rfl | rfl | rfl | rfl : c = 0 ∨ c = 1 ∨ c = 2 ∨ c = 3 ∨ c = 4 ∨ c = 5 := by omega
  all_goals simp only [triS, rowS, sumZ, Nat.reduceAdd, Nat.reduceSub]
  all_goals omega
theorem tri_low {g : Nat → Nat → Int} (hs : ∀ i j, g i j = g j i) {c : Nat} (hc : c ≤ 5) : sumZ (fun a => sumZ (g a) a) c = triS g c c := by
  have h1 := hs 1 0
  have h2 := hs 2 0
  have h3 := hs 2 1
  have h4 := hs 3 0
  have h5 := hs 3 1
  have h6 := hs 3 2
  have h7 := hs 4 0
  have h8 := hs 4 1
  have h9 := hs 4 2
  have h10 := hs 4 3
  obtain rfl | rfl | rfl | rfl | rfl | rfl : c = 0 ∨ c = 1 ∨ c = 2 ∨ c = 3 ∨ c = 4 ∨ c = 5 := by omega
  all_goals simp only [triS, rowS, sumZ, Nat.reduceAdd, Nat.reduceSub]
  all_goals omega
theorem tri_perm {g : Nat → Nat → Int} (hs : ∀ i j, g i j = g j i) {c : Nat} (hc : c ≤ 5) {o : Nat → Int} (h : Ord c o) : triS (fun i j => g (o i).toNat (o j).toNat) c c = triS g c c := by
  have h1 := tri_full hs hc
  have h2 := tri_full (g := fun i j => g (o i).toNat (o j).toNat) (fun i j => hs _ _) hc
  have h3 : sumZ (fun i => g (o i).toNat (o i).toNat) c = sumZ (fun i => g i i) c := sumZ_perm h (fun a => g a a)
  have h4 : sumZ (fun i => sumZ (fun j => g (o i).toNat (o j).toNat) c) c = sumZ (fun i => sumZ (g i) c) c := by
    have e : sumZ (fun i => sumZ (fun j => g (o i).toNat (o j).toNat) c) c = sumZ (fun i => sumZ (g (o i).toNat) c) c := sumZ_congr (fun i _ => sumZ_perm h (g (o i).toNat))
    rw [e]
    exact sumZ_perm h (fun a => sumZ (g a) c)
  omega
theorem rowS_le {g g' : Nat → Nat → Int} {k : Nat} : ∀ {j : Nat}, (∀ i, i < j → g k (k + 1 + i) ≤ g' k (k + 1 + i)) → rowS g k j ≤ rowS g' k j := by
  intro j
  induction j with
  | zero => intro _; exact Int.le_refl _
  | succ j ih =>
    intro h
    have h1 := ih (fun i hi => h i (by omega))
    have h2 := h j (by omega)
    simp only [rowS]
    omega
theorem triS_le {g g' : Nat → Nat → Int} {c : Nat} (h : ∀ i j, i < j → j < c → g i j ≤ g' i j) : ∀ {k : Nat}, k ≤ c → triS g c k ≤ triS g' c k := by
  intro k
  induction k with
  | zero => intro _; exact Int.le_refl _
  | succ k ih =>
    intro hk
    have h1 := ih (by omega)
    have h2 := rowS_le (g := g) (g' := g') (k := k) (j := c - (k + 1)) (fun i hi => h k (k + 1 + i) (by omega) (by omega))
    simp only [triS]
    omega
/-- The lesser number of ballots, of two candidates with margin m. -/
def lesI (n : Nat) (m : Int) : Int := Int.tdiv ((n : Int) - max m (-m)) 2
def lesT (n : Nat) (T : Nat → Int) : Nat → Nat → Int := fun a b => if a ≤ b then lesI n (T (5 * a + b)) else lesI n (T (5 * b + a))
theorem lesT_sym (n : Nat) (T : Nat → Int) (i j : Nat) : lesT n T i j = lesT n T j i := by
  unfold lesT
  by_cases h : i ≤ j
  · by_cases h2 : j ≤ i
    · rw [show i = j by omega]
    · rw [if_pos h, if_neg h2]
  · rw [if_neg h, if_pos (by omega)]
theorem lesI_neg (n : Nat) (m : Int) : lesI n (-m) = lesI n m := by
  unfold lesI
  rw [Int.neg_neg, Int.max_comm]
theorem lesT_at {n c : Nat} {T : Nat → Int} (hA : Anti T c) {a b : Nat} (ha : a < c) (hb : b < c) : lesT n T a b = lesI n (T (5 * a + b)) := by
  unfold lesT
  split
  · rfl
  · rw [hA a b ha hb, lesI_neg]
def lesS (n : Nat) (T : Nat → Int) (c : Nat) : Int := sumZ (fun a => sumZ (fun b => lesI n (T (5 * a + b))) a) c
theorem lesS_tri {n c : Nat} {T : Nat → Int} (hc : c ≤ 5) (hA : Anti T c) : lesS n T c = triS (lesT n T) c c := by
  rw [← tri_low (lesT_sym n T) hc]
  exact sumZ_congr (fun a ha => sumZ_congr (fun b hb => (lesT_at hA ha (by omega)).symm))
theorem les_lower {n c : Nat} {T : Nat → Int} (hc : c ≤ 5) (hA : Anti T c) (hT : ∀ a b, a < c → b < c → -(n : Int) ≤ T (5 * a + b) ∧ T (5 * a + b) ≤ n) {o : Nat → Int} (h : Ord c o) : lesS n T c ≤ disS n T o c := by
  rw [lesS_tri hc hA, ← tri_perm (lesT_sym n T) hc h]
  refine triS_le (fun i j hij hj => ?_) (Nat.le_refl _)
  have h1 := h.rng i (by omega)
  have h2 := h.rng j hj
  have h3 := hT (o i).toNat (o j).toNat (by omega) (by omega)
  rw [lesT_at hA (by omega) (by omega)]
  unfold lesI dG
  generalize T (5 * (o i).toNat + (o j).toNat) = m at *
  rw [Int.tdiv_eq_ediv_of_nonneg (by omega), Int.tdiv_eq_ediv_of_nonneg (by omega)]
  omega
/-- Where no three beat each other in a circle, and no margin is 0, some order has each beat all behind. -/
theorem line_exists {T : Nat → Int} {c : Nat} (hA : Anti T c) (hz : ∀ a b, b < a → a < c → T (5 * a + b) ≠ 0) (hno : ∀ a b d, a < c → b < c → d < c → ¬(0 < T (5 * a + b) ∧ 0 < T (5 * b + d) ∧ 0 < T (5 * d + a))) :
    ∀ k, k ≤ c → ∃ l : List Nat, l.length = k ∧ (∀ x ∈ l, x < k) ∧ l.Nodup ∧ l.Pairwise (fun x y => 0 < T (5 * x + y)) := by
  have hne : ∀ a b, a < c → b < c → a ≠ b → T (5 * a + b) ≠ 0 := fun a b ha hb e => by
    rcases Nat.lt_or_ge b a with h | h
    · exact hz a b h ha
    · have h1 := hz b a (by omega) hb
      have h2 := hA a b ha hb
      omega
  have htr : ∀ a b d, a < c → b < c → d < c → a ≠ d → 0 < T (5 * a + b) → 0 < T (5 * b + d) → 0 < T (5 * a + d) := fun a b d ha hb hd e h1 h2 => by
    have h3 := hno a b d ha hb hd
    have h4 := hne a d ha hd e
    have h5 := hA a d ha hd
    rcases Int.lt_or_le 0 (T (5 * d + a)) with h | h
    · exact absurd ⟨h1, h2, h⟩ h3
    · omega
  intro k
  induction k with
  | zero => intro _; exact ⟨[], rfl, by simp, List.nodup_nil, List.Pairwise.nil⟩
  | succ k ih =>
    intro hk
    obtain ⟨l, h1, h2, h3, h4⟩ := ih (by omega)
    obtain ⟨p, hp⟩ : ∃ p : Nat → Bool, p = fun x => decide (0 < T (5 * x + k)) := ⟨_, rfl⟩
    have hpt : ∀ x, p x = true ↔ 0 < T (5 * x + k) := fun x => by rw [hp]; simp
    have hpf : ∀ x, x ∈ l → ((!p x) = true ↔ 0 < T (5 * k + x)) := fun x hx => by
      have h5 := h2 x hx
      have h6 := hne x k (by omega) (by omega) (by omega)
      have h7 := hA x k (by omega) (by omega)
      rw [hp]
      simp
      omega
    have hlen : (l.filter p).length + (l.filter (fun x => !p x)).length = l.length := by
      clear h1 h2 h3 h4 hpt hpf hp
      induction l with
      | nil => rfl
      | cons a l ih2 =>
        cases hpa : p a
        · rw [List.filter_cons_of_neg (by rw [hpa]; decide), List.filter_cons_of_pos (by rw [hpa]; rfl)]
          simp only [List.length_cons]
          omega
        · rw [List.filter_cons_of_pos hpa, List.filter_cons_of_neg (by rw [hpa]; decide)]
          simp only [List.length_cons]
          omega
    refine ⟨l.filter p ++ k :: l.filter (fun x => !p x), ?_, ?_, ?_, ?_⟩
    · simp only [List.length_append, List.length_cons]
      omega
    · intro x hx
      rcases List.mem_append.1 hx with hx | hx
      · have := h2 x (List.mem_filter.1 hx).1
        omega
      · rcases List.mem_cons.1 hx with rfl | hx
        · omega
        · have := h2 x (List.mem_filter.1 hx).1
          omega
    · refine List.pairwise_append.2 ⟨h3.filter _, List.pairwise_cons.2 ⟨fun y hy => ?_, h3.filter _⟩, fun x hx y hy => ?_⟩
      · have := h2 y (List.mem_filter.1 hy).1
        omega
      · have h5 := h2 x (List.mem_filter.1 hx).1
        rcases List.mem_cons.1 hy with rfl | hy
        · omega
        · intro e
          subst e
          have h6 := (List.mem_filter.1 hx).2
          have h7 := (List.mem_filter.1 hy).2
          simp only [h6] at h7
          cases h7
    · refine List.pairwise_append.2 ⟨h4.filter _, List.pairwise_cons.2 ⟨fun y hy => ?_, h4.filter _⟩, fun x hx y hy => ?_⟩
      · exact (hpf y (List.mem_filter.1 hy).1).1 (List.mem_filter.1 hy).2
      · have h5 := (hpt x).1 (List.mem_filter.1 hx).2
        rcases List.mem_cons.1 hy with rfl | hy
        · exact h5
        · have h6 := (hpf y (List.mem_filter.1 hy).1).1 (List.mem_filter.1 hy).2
          have h7 := h2 x (List.mem_filter.1 hx).1
          have h8 := h2 y (List.mem_filter.1 hy).1
          refine htr x k y (by omega) (by omega) (by omega) ?_ h5 h6
          intro e
          subst e
          have h9 := hA x k (by omega) (by omega)
          omega
theorem les_equal {n c : Nat} {T : Nat → Int} (hc : c ≤ 5) (hA : Anti T c) (hz : ∀ a b, b < a → a < c → T (5 * a + b) ≠ 0) (hno : ∀ a b d, a < c → b < c → d < c → ¬(0 < T (5 * a + b) ∧ 0 < T (5 * b + d) ∧ 0 < T (5 * d + a))) :
    ∃ o, Ord c o ∧ disS n T o c = lesS n T c := by
  obtain ⟨l, h1, h2, h3, h4⟩ := line_exists hA hz hno c (Nat.le_refl _)
  have hm : l ∈ ordL (List.range c) c [] := (mem_ordL _ _ _ _).2 ⟨l, (List.nil_append _).symm, h1, fun x hx => ⟨List.mem_range.2 (h2 x hx), by simp⟩, h3⟩
  have hO := (ord_of_mem hm).2
  refine ⟨rowF l, hO, ?_⟩
  rw [lesS_tri hc hA, ← tri_perm (lesT_sym n T) hc hO]
  refine triS_congr (fun i j hij hj => ?_) (Nat.le_refl _)
  have hi' : i < l.length := by omega
  have hj' : j < l.length := by omega
  have h5 := (List.pairwise_iff_getElem.1 h4) i j hi' hj' hij
  have e1 : (rowF l i).toNat = l[i] := by simp [rowF, List.getD, hi']
  have e2 : (rowF l j).toNat = l[j] := by simp [rowF, List.getD, hj']
  have h6 := h2 l[i] (List.getElem_mem hi')
  have h7 := h2 l[j] (List.getElem_mem hj')
  rw [e1, e2, lesT_at hA h6 h7]
  unfold dG lesI
  rw [e1, e2]
  generalize T (5 * l[i] + l[j]) = m at *
  rw [show max m (-m) = m by omega]
end Go.Proofs.Ytnobbklnnkpdfaa
