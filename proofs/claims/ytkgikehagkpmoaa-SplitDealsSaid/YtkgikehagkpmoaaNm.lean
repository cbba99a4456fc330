import Derived.Test.YtkgikehagkpmoaaKM
import Derived.Test.YtkgikehagkpmoaaOkFew
namespace Go.Proofs.Ytkgikehagkpmoaa

/-- Turning round: i goes to i + b, less n if it is too far. -/
def rotN (n b i : Nat) : Nat := if i + b < n then i + b else i + b - n
theorem rotN_lt {n b i : Nat} (hb : b < n) (hi : i < n) : rotN n b i < n := by unfold rotN; split <;> omega
theorem rotN_inj {n b i j : Nat} (hb : b < n) (hi : i < n) (hj : j < n) (e : rotN n b i = rotN n b j) : i = j := by
  unfold rotN at e
  split at e <;> split at e <;> omega
theorem rotN_onto {n b j : Nat} (hb : b < n) (hj : j < n) : ∃ i, i < n ∧ rotN n b i = j := by
  rcases Nat.lt_or_ge j b with h | h
  · exact ⟨j + n - b, by omega, by unfold rotN; split <;> omega⟩
  · exact ⟨j - b, by omega, by unfold rotN; split <;> omega⟩
theorem rotN_mod {n b i : Nat} (hb : b < n) (hi : i < n) : (i + b) % n = rotN n b i := by
  unfold rotN
  split
  · exact Nat.mod_eq_of_lt (by omega)
  · rw [Nat.mod_eq_sub_mod (by omega), Nat.mod_eq_of_lt (by omega)]

theorem sumTo_split (f : Nat → Int) (a b : Nat) : sumTo f (a + b) = sumTo f a + sumTo (fun j => f (a + j)) b := by
  induction b with
  | zero => simp [sumTo]
  | succ b ih => rw [← Nat.add_assoc]; simp only [sumTo]; rw [ih]; omega
theorem sumTo_eq {f g : Nat → Int} {n : Nat} (h : ∀ i, i < n → f i = g i) : sumTo f n = sumTo g n := by
  induction n with
  | zero => rfl
  | succ n ih => simp only [sumTo]; rw [ih (fun i hi => h i (by omega)), h n (by omega)]
theorem sumTo_rot (f : Nat → Int) {n b : Nat} (hb : b < n) : sumTo (fun i => f (rotN n b i)) n = sumTo f n := by
  have e1 : n = (n - b) + b := by omega
  have e2 : n = b + (n - b) := by omega
  have h1 := sumTo_split (fun i => f (rotN n b i)) (n - b) b
  have h2 := sumTo_split f b (n - b)
  rw [← e1] at h1
  rw [← e2] at h2
  rw [h1, h2]
  have a1 : sumTo (fun i => f (rotN n b i)) (n - b) = sumTo (fun j => f (b + j)) (n - b) := sumTo_eq fun i hi => by
    show f (rotN n b i) = f (b + i)
    congr 1
    unfold rotN
    rw [if_pos (by omega)]
    omega
  have a2 : sumTo (fun j => f (rotN n b (n - b + j))) b = sumTo f b := sumTo_eq fun i hi => by
    show f (rotN n b (n - b + i)) = f i
    congr 1
    unfold rotN
    rw [if_neg (by omega)]
    omega
  rw [a1, a2]
  omega
theorem wTo_sum (f d : Nat → Int) (j : Int) (k : Nat) : wTo f d j k = sumTo (fun g => if d g = j then f g else 0) k := by
  induction k with
  | zero => rfl
  | succ k ih =>
    simp only [wTo, sumTo]
    by_cases e : d k = j
    · rw [if_pos e, if_pos e, ih]
    · rw [if_neg e, if_neg e, ih]; omega

/-- W and X are v and d with other names. -/
structure Renamed (n m by_ go : Nat) (v W : Nat → Nat → Int) (d X : Nat → Int) : Prop where
  hby : by_ < n
  hgo : go < m
  own : Own n m d
  val : ∀ i g, i < n → g < m → W (rotN n by_ i) (rotN m go g) = v i g
  div : ∀ g, g < m → X (rotN m go g) = ((rotN n by_ (d g).toNat : Nat) : Int)

section
variable {n m by_ go : Nat} {v W : Nat → Nat → Int} {d X : Nat → Int}
theorem Renamed.has (h : Renamed n m by_ go v W d X) {g j : Nat} (hg : g < m) (hj : j < n) : X (rotN m go g) = ((rotN n by_ j : Nat) : Int) ↔ d g = (j : Int) := by
  obtain ⟨h1, h2⟩ := h.own g hg
  rw [h.div g hg]
  constructor
  · intro e
    have e' : rotN n by_ (d g).toNat = rotN n by_ j := by omega
    have := rotN_inj h.hby (by omega) hj e'
    omega
  · intro e
    rw [e]
    rfl
theorem Renamed.worth (h : Renamed n m by_ go v W d X) {i j : Nat} (hi : i < n) (hj : j < n) : wTo (W (rotN n by_ i)) X ((rotN n by_ j : Nat) : Int) m = wTo (v i) d (j : Int) m := by
  rw [wTo_sum, wTo_sum, ← sumTo_rot _ h.hgo]
  refine sumTo_eq fun g hg => ?_
  show (if X (rotN m go g) = _ then W (rotN n by_ i) (rotN m go g) else 0) = _
  rw [h.val i g hi hg]
  by_cases e : d g = (j : Int)
  · rw [if_pos e, if_pos ((h.has hg hj).2 e)]
  · rw [if_neg e, if_neg (fun x => e ((h.has hg hj).1 x))]
theorem Renamed.all (h : Renamed n m by_ go v W d X) {i : Nat} (hi : i < n) : sumTo (W (rotN n by_ i)) m = sumTo (v i) m := by
  rw [← sumTo_rot _ h.hgo]
  exact sumTo_eq fun g hg => h.val i g hi hg
theorem Renamed.envy (h : Renamed n m by_ go v W d X) {i j : Nat} (hi : i < n) (hj : j < n) : envB m W X (rotN n by_ i) ((rotN n by_ j : Nat) : Int) = envB m v d i (j : Int) := by
  simp only [envB, h.worth hi hi, h.worth hi hj]
theorem anyB_rot {p q : Nat → Bool} {b : Nat} (hb : b < m) (h : ∀ g, g < m → q (rotN m b g) = p g) : anyB q m = anyB p m := by
  rw [Bool.eq_iff_iff, anyB_iff, anyB_iff]
  constructor
  · rintro ⟨g, hg, e⟩
    obtain ⟨g', hg', rfl⟩ := rotN_onto hb hg
    exact ⟨g', hg', by rw [← h g' hg']; exact e⟩
  · rintro ⟨g, hg, e⟩
    exact ⟨_, rotN_lt hb hg, by rw [h g hg]; exact e⟩
theorem allB_rot {p q : Nat → Bool} {b : Nat} (hb : b < m) (h : ∀ g, g < m → q (rotN m b g) = p g) : allB q m = allB p m := by
  rw [Bool.eq_iff_iff, allB_iff, allB_iff]
  constructor
  · intro e g hg
    rw [← h g hg]
    exact e _ (rotN_lt hb hg)
  · intro e g hg
    obtain ⟨g', hg', rfl⟩ := rotN_onto hb hg
    rw [h g' hg']
    exact e _ hg'
theorem Renamed.exc (h : Renamed n m by_ go v W d X) {i j : Nat} (hi : i < n) (hj : j < n) (kind : Int) : excB m (W (rotN n by_ i)) X ((rotN n by_ i : Nat) : Int) ((rotN n by_ j : Nat) : Int) kind = excB m (v i) d (i : Int) (j : Int) kind := by
  have hg : ∀ g, g < m → goneB m (W (rotN n by_ i)) X ((rotN n by_ i : Nat) : Int) ((rotN n by_ j : Nat) : Int) (rotN m go g) = goneB m (v i) d (i : Int) (j : Int) g := fun g hg => by
    simp only [goneB, h.worth hi hi, h.worth hi hj, h.val i g hi hg]
  have hd : ∀ g, g < m → decide (X (rotN m go g) = ((rotN n by_ j : Nat) : Int)) = decide (d g = (j : Int)) := fun g hg => by
    rw [Bool.eq_iff_iff, decide_eq_true_eq, decide_eq_true_eq]
    exact h.has hg hj
  have e1 : anyB (someP m (W (rotN n by_ i)) X ((rotN n by_ i : Nat) : Int) ((rotN n by_ j : Nat) : Int)) m = anyB (someP m (v i) d (i : Int) (j : Int)) m := anyB_rot h.hgo fun g hgm => by
    simp only [someP, hg g hgm, hd g hgm]
  have e2 : allB (eachP m (W (rotN n by_ i)) X ((rotN n by_ i : Nat) : Int) ((rotN n by_ j : Nat) : Int)) m = allB (eachP m (v i) d (i : Int) (j : Int)) m := allB_rot h.hgo fun g hgm => by
    simp only [eachP, hg g hgm, hd g hgm]
  simp only [excB, e1, e2]
theorem Renamed.fairTo (h : Renamed n m by_ go v W d X) {i : Nat} (hi : i < n) (kind : Int) : fairToB n m W X kind (rotN n by_ i) = fairToB n m v d kind i := by
  have e1 : enoughB n m (W (rotN n by_ i)) X ((rotN n by_ i : Nat) : Int) = enoughB n m (v i) d (i : Int) := by
    simp only [enoughB, h.all hi, h.worth hi hi]
  have e2 : anyB (oneP n m (W (rotN n by_ i)) X ((rotN n by_ i : Nat) : Int)) m = anyB (oneP n m (v i) d (i : Int)) m := anyB_rot h.hgo fun g hg => by
    simp only [oneP, h.all hi, h.worth hi hi, h.val i g hi hg]
    rw [Bool.eq_iff_iff, decide_eq_true_eq, decide_eq_true_eq, h.has hg hi]
  have e3 : anyB (badP m W X (rotN n by_ i) kind) n = anyB (badP m v d i kind) n := anyB_rot h.hby fun j hj => by
    simp only [badP, h.envy hi hj, h.exc hi hj]
  simp only [fairToB, e1, e2, e3]
theorem Renamed.fair (h : Renamed n m by_ go v W d X) (kind : Int) : allB (fairToB n m W X kind) n = allB (fairToB n m v d kind) n :=
  allB_rot h.hby fun i hi => h.fairTo hi kind

/-- How many pairs there are. -/
def cnt (p : Nat → Bool) : Nat → Nat
  | 0 => 0
  | k + 1 => cnt p k + (if p k then 1 else 0)
theorem cnt_sum (p : Nat → Bool) (n : Nat) : ((cnt p n : Nat) : Int) = sumTo (fun i => if p i then 1 else 0) n := by
  induction n with
  | zero => rfl
  | succ n ih =>
    simp only [cnt, sumTo, ← ih]
    cases p n <;> simp
theorem envRow_cnt (m : Nat) (v : Nat → Nat → Int) (d : Nat → Int) (i k : Nat) : (envRow m v d i k).length = cnt (fun j => envB m v d i (j : Int)) k := by
  induction k with
  | zero => rfl
  | succ k ih =>
    simp only [envRow, cnt]
    split
    · rw [List.length_append, ih]; rfl
    · rw [ih]; rfl
theorem envAll_cnt (n m : Nat) (v : Nat → Nat → Int) (d : Nat → Int) (i : Nat) : (((envAll n m v d i).length : Nat) : Int) = sumTo (fun i => ((cnt (fun j => envB m v d i (j : Int)) n : Nat) : Int)) i := by
  induction i with
  | zero => rfl
  | succ i ih =>
    simp only [envAll, sumTo, List.length_append, envRow_cnt, ← ih]
    omega
theorem Renamed.len (h : Renamed n m by_ go v W d X) : (envAll n m W X n).length = (envAll n m v d n).length := by
  have e : (((envAll n m W X n).length : Nat) : Int) = (((envAll n m v d n).length : Nat) : Int) := by
    rw [envAll_cnt, envAll_cnt, ← sumTo_rot _ h.hby]
    refine sumTo_eq fun i hi => ?_
    rw [cnt_sum, cnt_sum, ← sumTo_rot _ h.hby]
    refine sumTo_eq fun j hj => ?_
    show (if envB m W X (rotN n by_ i) ((rotN n by_ j : Nat) : Int) = true then (1 : Int) else 0) = _
    rw [h.envy hi hj]
  omega
theorem envRow_mem {m : Nat} {v : Nat → Nat → Int} {d : Nat → Int} {i k : Nat} {x : Int × Int} : x ∈ envRow m v d i k ↔ ∃ j, j < k ∧ envB m v d i (j : Int) = true ∧ x = ((i : Int), (j : Int)) := by
  induction k with
  | zero => simp [envRow]
  | succ k ih =>
    simp only [envRow]
    by_cases e : envB m v d i (k : Int) = true
    · rw [if_pos e, List.mem_append, ih]
      constructor
      · rintro (⟨j, hj, h1, h2⟩ | h)
        · exact ⟨j, by omega, h1, h2⟩
        · exact ⟨k, by omega, e, by simpa using h⟩
      · rintro ⟨j, hj, h1, h2⟩
        rcases Nat.lt_or_ge j k with hl | hl
        · exact .inl ⟨j, hl, h1, h2⟩
        · obtain rfl : j = k := by omega
          exact .inr (by simp [h2])
    · rw [if_neg e, ih]
      constructor
      · rintro ⟨j, hj, h1, h2⟩
        exact ⟨j, by omega, h1, h2⟩
      · rintro ⟨j, hj, h1, h2⟩
        rcases Nat.lt_or_ge j k with hl | hl
        · exact ⟨j, hl, h1, h2⟩
        · obtain rfl : j = k := by omega
          exact absurd h1 e
theorem envAll_mem {n m : Nat} {v : Nat → Nat → Int} {d : Nat → Int} {k : Nat} {x : Int × Int} : x ∈ envAll n m v d k ↔ ∃ i j, i < k ∧ j < n ∧ envB m v d i (j : Int) = true ∧ x = ((i : Int), (j : Int)) := by
  induction k with
  | zero => simp [envAll]
  | succ k ih =>
    simp only [envAll, List.mem_append, ih, envRow_mem]
    constructor
    · rintro (⟨i, j, h1, h2⟩ | ⟨j, h1, h2⟩)
      · exact ⟨i, j, by omega, h2⟩
      · exact ⟨k, j, by omega, h1, h2⟩
    · rintro ⟨i, j, h1, h2⟩
      rcases Nat.lt_or_ge i k with hl | hl
      · exact .inl ⟨i, j, hl, h2⟩
      · obtain rfl : i = k := by omega
        exact .inr ⟨j, h2⟩
theorem Renamed.mem (h : Renamed n m by_ go v W d X) {x : Int × Int} (hx : x ∈ envAll n m v d n) : ∃ i j : Nat, i < n ∧ j < n ∧ x = ((i : Int), (j : Int)) ∧ ((((rotN n by_ i : Nat) : Int), ((rotN n by_ j : Nat) : Int)) : Int × Int) ∈ envAll n m W X n := by
  obtain ⟨i, j, hi, hj, he, rfl⟩ := envAll_mem.1 hx
  exact ⟨i, j, hi, hj, rfl, envAll_mem.2 ⟨_, _, rotN_lt h.hby hi, rotN_lt h.hby hj, by rw [h.envy hi hj]; exact he, rfl⟩⟩
theorem Renamed.own' (h : Renamed n m by_ go v W d X) : Own n m X := fun g hg => by
  obtain ⟨g', hg', rfl⟩ := rotN_onto h.hgo hg
  obtain ⟨h1, h2⟩ := h.own g' hg'
  rw [h.div g' hg']
  have := rotN_lt h.hby (i := (d g').toNat) (by omega)
  omega
theorem Renamed.bd (h : Renamed n m by_ go v W d X) (hb : BdM n m v 100) : BdM n m W 100 := fun i hi g hg => by
  obtain ⟨i', hi', rfl⟩ := rotN_onto h.hby hi
  obtain ⟨g', hg', rfl⟩ := rotN_onto h.hgo hg
  rw [h.val i' g' hi' hg']
  exact hb i' hi' g' hg'
end
end Go.Proofs.Ytkgikehagkpmoaa
