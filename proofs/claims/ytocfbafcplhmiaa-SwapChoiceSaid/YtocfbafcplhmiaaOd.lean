/- Orders of candidates: distinct values below c are all values below c; what the pairs of the ballots sum up to is the margin. -/
import Derived.Test.YtocfbafcplhmiaaIdx
import Derived.Test.YtocfbafcplhmiaaBool
import Derived.Test.YtocfbafcplhmiaaRowI
namespace Go.Proofs.Ytocfbafcplhmiaa
open Go.RowKit

theorem pig : ∀ (n : Nat) (f : Nat → Nat), (∀ k, k < n + 1 → f k < n) → ∃ i j, i < j ∧ j < n + 1 ∧ f i = f j := by
  intro n
  induction n with
  | zero => intro f h; exact absurd (h 0 (by omega)) (by omega)
  | succ n ih =>
    intro f h
    by_cases hx : ∃ i, i < n + 1 ∧ f i = f (n + 1)
    · obtain ⟨i, hi, e⟩ := hx
      exact ⟨i, n + 1, hi, by omega, e⟩
    · have hx' : ∀ i, i < n + 1 → f i ≠ f (n + 1) := fun i hi e => hx ⟨i, hi, e⟩
      obtain ⟨i, j, h1, h2, e⟩ := ih (fun k => if f k < f (n + 1) then f k else f k - 1) (fun k hk => by
        have a1 := h k (by omega)
        have a2 := h (n + 1) (by omega)
        have a3 := hx' k hk
        show (if f k < f (n + 1) then f k else f k - 1) < n
        split <;> omega)
      have a3 := hx' i (by omega)
      have a4 := hx' j (by omega)
      refine ⟨i, j, h1, by omega, ?_⟩
      have e' : (if f i < f (n + 1) then f i else f i - 1) = (if f j < f (n + 1) then f j else f j - 1) := e
      split at e' <;> split at e' <;> omega

/-- f 0 .. f (c-1) is an order of the candidates below c. -/
structure Ord (c : Nat) (f : Nat → Int) : Prop where
  rng : ∀ k, k < c → 0 ≤ f k ∧ f k < (c : Int)
  inj : ∀ i j, i < j → j < c → f i ≠ f j
theorem Ord.uniq {c : Nat} {f : Nat → Int} (h : Ord c f) {i j : Nat} (hi : i < c) (hj : j < c) (e : f i = f j) : i = j := by
  rcases Nat.lt_trichotomy i j with hl | hl | hl
  · exact absurd e (h.inj i j hl hj)
  · exact hl
  · exact absurd e.symm (h.inj j i hl hi)
theorem Ord.surj {c : Nat} {f : Nat → Int} (h : Ord c f) {x : Nat} (hx : x < c) : ∃ k, k < c ∧ f k = (x : Int) := by
  apply Classical.byContradiction
  intro hno
  have hn : ∀ k, k < c → f k ≠ (x : Int) := fun k hk e => hno ⟨k, hk, e⟩
  obtain ⟨n, rfl⟩ : ∃ n, c = n + 1 := ⟨c - 1, by omega⟩
  obtain ⟨i, j, h1, h2, e⟩ := pig n (fun k => if (f k).toNat < x then (f k).toNat else (f k).toNat - 1) (fun k hk => by
    have a1 := h.rng k hk
    have a2 := hn k hk
    show (if (f k).toNat < x then (f k).toNat else (f k).toNat - 1) < n
    split <;> omega)
  have e' : (if (f i).toNat < x then (f i).toNat else (f i).toNat - 1) = (if (f j).toNat < x then (f j).toNat else (f j).toNat - 1) := e
  have a1 := h.rng i (by omega)
  have a2 := h.rng j (by omega)
  have a3 := hn i (by omega)
  have a4 := hn j (by omega)
  refine h.inj i j h1 h2 ?_
  split at e' <;> split at e' <;> omega
theorem ord_of_surj {c : Nat} {f : Nat → Int} (h : ∀ x : Nat, x < c → ∃ k, k < c ∧ f k = (x : Int)) : Ord c f := by
  have hp : ∃ p : Nat → Nat, ∀ x, x < c → p x < c ∧ f (p x) = (x : Int) := by
    refine ⟨fun x => if hx : x < c then Classical.choose (h x hx) else 0, fun x hx => ?_⟩
    have := Classical.choose_spec (h x hx)
    simpa [hx] using this
  obtain ⟨p, hp⟩ := hp
  have hO : Ord c (fun x => (p x : Int)) := ⟨fun k hk => by
    have := (hp k hk).1
    constructor <;> omega, fun i j hij hj e => by
    have e1 := (hp i (by omega)).2
    have e2 := (hp j hj).2
    have e3 : p i = p j := by exact Int.ofNat.inj e
    rw [e3] at e1
    omega⟩
  have hk : ∀ k, k < c → ∃ x, x < c ∧ p x = k := fun k hk => by
    obtain ⟨x, hx, e⟩ := hO.surj hk
    exact ⟨x, hx, Int.ofNat.inj e⟩
  refine ⟨fun k hk' => ?_, fun i j hij hj e => ?_⟩
  · obtain ⟨x, hx, rfl⟩ := hk k hk'
    rw [(hp x hx).2]
    omega
  · obtain ⟨x, hx, e1⟩ := hk i (by omega)
    obtain ⟨y, hy, e2⟩ := hk j hj
    rw [← e1, ← e2, (hp x hx).2, (hp y hy).2] at e
    have : x = y := by omega
    subst this
    omega
def okAt (c : Nat) (f : Nat → Int) (k : Nat) : Bool := decide (0 ≤ f k) && (decide (f k < (c : Int)) && !hasB f (f k) k)
def ordB (c L : Nat) (f : Nat → Int) : Bool := decide (L = c) && allB (okAt c f) L
def ordR (c L : Nat) (f : Nat → Int) : Bool := allB (fun x => hasB f (x : Int) L) c && decide (L = c)
theorem hasB_iff {f : Nat → Int} {x : Int} {n : Nat} : hasB f x n = true ↔ ∃ k, k < n ∧ f k = x := by
  unfold hasB
  rw [decide_eq_true_iff]
  rcases idxI_cases f x n with ⟨e, h⟩ | ⟨k, hk, e, h1, h2⟩
  · rw [e]
    exact ⟨fun h0 => absurd h0 (by omega), fun ⟨k, hk, e⟩ => absurd e (h k hk)⟩
  · rw [e]
    exact ⟨fun _ => ⟨k, hk, h1⟩, fun _ => by omega⟩
theorem ordB_iff {c L : Nat} {f : Nat → Int} : ordB c L f = true ↔ L = c ∧ Ord c f := by
  unfold ordB
  rw [Bool.and_eq_true, decide_eq_true_iff, allB_iff]
  constructor
  · rintro ⟨rfl, h⟩
    have h' : ∀ k, k < L → 0 ≤ f k ∧ f k < (L : Int) ∧ ¬ ∃ i, i < k ∧ f i = f k := fun k hk => by
      have := h k hk
      unfold okAt at this
      rw [Bool.and_eq_true, Bool.and_eq_true, decide_eq_true_iff, decide_eq_true_iff, Bool.not_eq_true', ← Bool.not_eq_true, hasB_iff] at this
      exact this
    exact ⟨rfl, fun k hk => ⟨(h' k hk).1, (h' k hk).2.1⟩, fun i j hij hj e => (h' j hj).2.2 ⟨i, hij, e⟩⟩
  · rintro ⟨rfl, h⟩
    refine ⟨rfl, fun k hk => ?_⟩
    unfold okAt
    rw [Bool.and_eq_true, Bool.and_eq_true, decide_eq_true_iff, decide_eq_true_iff, Bool.not_eq_true', ← Bool.not_eq_true, hasB_iff]
    exact ⟨(h.rng k hk).1, (h.rng k hk).2, fun ⟨i, hi, e⟩ => h.inj i k hi hk e⟩
theorem ordR_iff {c L : Nat} {f : Nat → Int} : ordR c L f = true ↔ L = c ∧ Ord c f := by
  unfold ordR
  rw [Bool.and_eq_true, decide_eq_true_iff, allB_iff]
  constructor
  · rintro ⟨h, rfl⟩
    exact ⟨rfl, ord_of_surj (fun x hx => hasB_iff.1 (h x hx))⟩
  · rintro ⟨rfl, h⟩
    exact ⟨fun x hx => hasB_iff.2 (h.surj hx), rfl⟩
theorem ordR_eq (c L : Nat) (f : Nat → Int) : ordR c L f = ordB c L f := by
  rw [Bool.eq_iff_iff, ordB_iff, ordR_iff]
/-- The place of a candidate. -/
theorem Ord.place {c : Nat} {f : Nat → Int} (h : Ord c f) {x : Nat} (hx : x < c) : ∃ k, k < c ∧ f k = (x : Int) ∧ idxI f (x : Int) c = (k : Int) ∧ ∀ j, j < c → (f j = (x : Int) ↔ j = k) := by
  obtain ⟨k, hk, e⟩ := h.surj hx
  refine ⟨k, hk, e, idxI_some (fun j hj e2 => h.inj j k hj hk (e2.trans e.symm)) e c hk, fun j hj => ⟨fun e2 => h.uniq hj hk (e2.trans e.symm), fun e2 => by rw [e2, e]⟩⟩

/-- What one pair of a ballot, x before y, changes. -/
def tick (T : Nat → Int) (x y : Nat) : Nat → Int := upd (upd T (5 * x + y) (T (5 * x + y) + 1)) (5 * y + x) (upd T (5 * x + y) (T (5 * x + y) + 1) (5 * y + x) - 1)
theorem tick_at (T : Nat → Int) {x y a b : Nat} (hx : x < 5) (hy : y < 5) (ha : a < 5) (hb : b < 5) : tick T x y (5 * a + b) = T (5 * a + b) + (if a = x ∧ b = y then 1 else 0) - (if a = y ∧ b = x then 1 else 0) := by
  unfold tick upd
  by_cases h1 : a = x ∧ b = y <;> by_cases h2 : a = y ∧ b = x
  · obtain ⟨rfl, rfl⟩ := h1
    obtain ⟨rfl, -⟩ := h2
    simp
  · obtain ⟨rfl, rfl⟩ := h1
    rw [if_neg (by omega), if_pos rfl, if_pos ⟨rfl, rfl⟩, if_neg h2]
    omega
  · obtain ⟨rfl, rfl⟩ := h2
    rw [if_pos rfl, if_neg (by omega), if_neg h1, if_pos ⟨rfl, rfl⟩]
    omega
  · rw [if_neg (by omega), if_neg (by omega), if_neg h1, if_neg h2]
    omega
def BdT (B : Int) (T : Nat → Int) : Prop := ∀ q, -B ≤ T q ∧ T q ≤ B
theorem BdT.tick {B : Int} {T : Nat → Int} (h : BdT B T) (x y : Nat) : BdT (B + 1) (tick T x y) := by
  intro q
  show -(B+1) ≤ (if q = 5 * y + x then (if 5 * y + x = 5 * x + y then T (5 * x + y) + 1 else T (5 * y + x)) - 1 else (if q = 5 * x + y then T (5 * x + y) + 1 else T q)) ∧ (if q = 5 * y + x then (if 5 * y + x = 5 * x + y then T (5 * x + y) + 1 else T (5 * y + x)) - 1 else (if q = 5 * x + y then T (5 * x + y) + 1 else T q)) ≤ B + 1
  have h1 := h q
  have h2 := h (5 * x + y)
  have h3 := h (5 * y + x)
  by_cases e1 : q = 5 * y + x
  · rw [if_pos e1]
    by_cases e2 : 5 * y + x = 5 * x + y
    · rw [if_pos e2]; omega
    · rw [if_neg e2]; omega
  · rw [if_neg e1]
    by_cases e2 : q = 5 * x + y
    · rw [if_pos e2]; omega
    · rw [if_neg e2]; omega
/-- One place k of a ballot f against j places behind it; the first k places; the first i ballots. -/
def mIn (f : Nat → Int) (k : Nat) (T : Nat → Int) : Nat → Nat → Int
  | 0 => T
  | j + 1 => tick (mIn f k T j) (f k).toNat (f (k + 1 + j)).toNat
def mAt (f : Nat → Int) (c : Nat) (T : Nat → Int) : Nat → Nat → Int
  | 0 => T
  | k + 1 => mIn f k (mAt f c T k) (c - (k + 1))
def mAll (v : Nat → Nat → Int) (c : Nat) : Nat → Nat → Int
  | 0 => fun _ => 0
  | i + 1 => mAt (v i) c (mAll v c i) c
theorem mIn_bd {B : Int} {f : Nat → Int} {k : Nat} {T : Nat → Int} (h : BdT B T) : ∀ j : Nat, BdT (B + j) (mIn f k T j) := by
  intro j
  induction j with
  | zero => intro q; have := h q; simp [mIn]; omega
  | succ j ih =>
    intro q
    have := ih.tick (f k).toNat (f (k + 1 + j)).toNat q
    simp only [mIn]
    omega
theorem mAt_bd {B : Int} {f : Nat → Int} {c : Nat} {T : Nat → Int} (h : BdT B T) : ∀ k : Nat, BdT (B + k * c) (mAt f c T k) := by
  intro k
  induction k with
  | zero => intro q; have := h q; simp [mAt]; omega
  | succ k ih =>
    intro q
    have := mIn_bd (f := f) (k := k) ih (c - (k + 1)) q
    simp only [mAt]
    have e : ((k + 1 : Nat) : Int) * c = k * c + c := by rw [Int.natCast_add, Int.add_mul]; simp
    rw [e]
    omega
theorem mAll_bd {v : Nat → Nat → Int} {c : Nat} : ∀ i : Nat, BdT (i * (c * c : Nat)) (mAll v c i) := by
  intro i
  induction i with
  | zero => intro q; simp [mAll]
  | succ i ih =>
    intro q
    have := mAt_bd (f := v i) (c := c) ih c q
    simp only [mAll]
    have e : ((i + 1 : Nat) : Int) * (c * c : Nat) = i * (c * c : Nat) + c * c := by rw [Int.natCast_add, Int.add_mul]; simp
    rw [e]
    omega
/-- 1: i is before j; -1: behind. -/
def sg (i j : Int) : Int := if i < j then 1 else if j < i then -1 else 0
theorem mIn_at {c : Nat} {f : Nat → Int} (h : Ord c f) (hc : c ≤ 5) {T : Nat → Int} {k a b pa pb : Nat} (ha : a < c) (hb : b < c) (hpa : ∀ j, j < c → (f j = (a : Int) ↔ j = pa)) (hpb : ∀ j, j < c → (f j = (b : Int) ↔ j = pb)) :
    ∀ j, k + 1 + j ≤ c → mIn f k T j (5 * a + b) = T (5 * a + b) + (if k = pa ∧ k < pb ∧ pb < k + 1 + j then 1 else 0) - (if k = pb ∧ k < pa ∧ pa < k + 1 + j then 1 else 0) := by
  intro j
  induction j with
  | zero =>
    intro _
    rw [if_neg (by omega), if_neg (by omega)]
    simp [mIn]
  | succ j ih =>
    intro hj
    have r1 := h.rng k (by omega)
    have r2 := h.rng (k + 1 + j) (by omega)
    have e1 := hpa k (by omega)
    have e2 := hpb k (by omega)
    have e3 := hpa (k + 1 + j) (by omega)
    have e4 := hpb (k + 1 + j) (by omega)
    simp only [mIn]
    rw [tick_at _ (by omega) (by omega) (by omega) (by omega), ih (by omega)]
    have q1 : (a = (f k).toNat ∧ b = (f (k + 1 + j)).toNat) ↔ (k = pa ∧ k + 1 + j = pb) := by
      rw [← e1, ← e4]
      constructor <;> rintro ⟨x, y⟩ <;> constructor <;> omega
    have q2 : (a = (f (k + 1 + j)).toNat ∧ b = (f k).toNat) ↔ (k = pb ∧ k + 1 + j = pa) := by
      rw [← e2, ← e3]
      constructor <;> rintro ⟨x, y⟩ <;> constructor <;> omega
    simp only [q1, q2]
    clear q1 q2 e1 e2 e3 e4 r1 r2 ih hpa hpb
    by_cases z1 : k = pa ∧ k + 1 + j = pb
    · rw [if_pos z1, if_neg (by omega), if_neg (by omega), if_neg (by omega), if_pos (by omega), if_neg (by omega)]
      omega
    · by_cases z2 : k = pb ∧ k + 1 + j = pa
      · rw [if_neg z1, if_pos z2, if_neg (by omega), if_neg (by omega), if_neg (by omega), if_pos (by omega)]
        omega
      · rw [if_neg z1, if_neg z2]
        have w1 : (k = pa ∧ k < pb ∧ pb < k + 1 + j) ↔ (k = pa ∧ k < pb ∧ pb < k + 1 + (j + 1)) := by omega
        have w2 : (k = pb ∧ k < pa ∧ pa < k + 1 + j) ↔ (k = pb ∧ k < pa ∧ pa < k + 1 + (j + 1)) := by omega
        simp only [w1, w2]
        omega
theorem mAt_at {c : Nat} {f : Nat → Int} (h : Ord c f) (hc : c ≤ 5) {T : Nat → Int} {a b : Nat} (ha : a < c) (hb : b < c) :
    mAt f c T c (5 * a + b) = T (5 * a + b) + sg (idxI f (a : Int) c) (idxI f (b : Int) c) := by
  obtain ⟨pa, hpa, -, ea, ua⟩ := h.place ha
  obtain ⟨pb, hpb, -, eb, ub⟩ := h.place hb
  have key : ∀ k, k ≤ c → mAt f c T k (5 * a + b) = T (5 * a + b) + (if pa < k ∧ pa < pb then 1 else 0) - (if pb < k ∧ pb < pa then 1 else 0) := by
    intro k
    induction k with
    | zero =>
      intro _
      rw [if_neg (by omega), if_neg (by omega)]
      simp [mAt]
    | succ k ih =>
      intro hk
      simp only [mAt]
      rw [mIn_at h hc ha hb ua ub _ (by omega), ih (by omega)]
      have w0 : k + 1 + (c - (k + 1)) = c := by omega
      rw [w0]
      clear ih ua ub ea eb
      by_cases z1 : k = pa
      · subst z1
        by_cases z2 : k < pb
        · rw [if_neg (by omega), if_neg (by omega), if_pos (by omega), if_neg (by omega), if_pos (by omega), if_neg (by omega)]
          omega
        · have w2 : (pb < k ∧ pb < k) ↔ (pb < k + 1 ∧ pb < k) := by omega
          rw [if_neg (by omega), if_neg (c := k = k ∧ k < pb ∧ pb < c) (by omega), if_neg (c := k = pb ∧ k < k ∧ k < c) (by omega), if_neg (c := k < k + 1 ∧ k < pb) (by omega)]
          simp only [w2]
          omega
      · by_cases z2 : k = pb
        · subst z2
          by_cases z3 : k < pa
          · rw [if_neg (by omega), if_neg (by omega), if_neg (by omega), if_pos (by omega), if_neg (by omega), if_pos (by omega)]
            omega
          · have w2 : (pa < k ∧ pa < k) ↔ (pa < k + 1 ∧ pa < k) := by omega
            rw [if_neg (c := k < k ∧ k < pa) (by omega), if_neg (c := k = pa ∧ k < k ∧ k < c) (by omega), if_neg (c := k = k ∧ k < pa ∧ pa < c) (by omega), if_neg (c := k < k + 1 ∧ k < pa) (by omega)]
            simp only [w2]
            omega
        · have w1 : (pa < k ∧ pa < pb) ↔ (pa < k + 1 ∧ pa < pb) := by omega
          have w2 : (pb < k ∧ pb < pa) ↔ (pb < k + 1 ∧ pb < pa) := by omega
          rw [if_neg (c := k = pa ∧ k < pb ∧ pb < c) (by omega), if_neg (c := k = pb ∧ k < pa ∧ pa < c) (by omega)]
          simp only [w1, w2]
          omega
  rw [key c (Nat.le_refl _), ea, eb]
  unfold sg
  clear key ua ub ea eb
  by_cases z : pa < pb
  · rw [if_pos (by omega), if_neg (by omega), if_pos (by omega)]
    omega
  · by_cases z2 : pb < pa
    · rw [if_neg (by omega), if_pos (by omega), if_neg (by omega), if_pos (by omega)]
      omega
    · rw [if_neg (by omega), if_neg (by omega), if_neg (by omega), if_neg (by omega)]
      omega
/-- The margin of a over b, of n ballots. -/
def mrg (v : Nat → Nat → Int) (c : Nat) (a b : Nat) : Nat → Int
  | 0 => 0
  | i + 1 => mrg v c a b i + sg (idxI (v i) (a : Int) c) (idxI (v i) (b : Int) c)
theorem mAll_at {c : Nat} {v : Nat → Nat → Int} (hc : c ≤ 5) {a b : Nat} (ha : a < c) (hb : b < c) : ∀ n, (∀ i, i < n → Ord c (v i)) → mAll v c n (5 * a + b) = mrg v c a b n := by
  intro n
  induction n with
  | zero => intro _; rfl
  | succ n ih =>
    intro h
    simp only [mAll, mrg]
    rw [mAt_at (h n (by omega)) hc ha hb, ih (fun i hi => h i (by omega))]
theorem mrg_bd (v : Nat → Nat → Int) (c a b : Nat) : ∀ n : Nat, -(n : Int) ≤ mrg v c a b n ∧ mrg v c a b n ≤ n := by
  intro n
  induction n with
  | zero => simp [mrg]
  | succ n ih =>
    simp only [mrg]
    unfold sg
    split
    · omega
    · split <;> omega
theorem mrg_anti (v : Nat → Nat → Int) (c a b : Nat) : ∀ n : Nat, mrg v c b a n = - mrg v c a b n := by
  intro n
  induction n with
  | zero => simp [mrg]
  | succ n ih =>
    simp only [mrg, ih]
    unfold sg
    by_cases h1 : idxI (v n) (a : Int) c < idxI (v n) (b : Int) c
    · rw [if_neg (by omega), if_pos h1, if_pos h1]
      omega
    · by_cases h2 : idxI (v n) (b : Int) c < idxI (v n) (a : Int) c
      · rw [if_pos h2, if_neg h1, if_pos h2]
        omega
      · rw [if_neg h2, if_neg h1, if_neg h1, if_neg h2]
        omega
end Go.Proofs.Ytocfbafcplhmiaa
